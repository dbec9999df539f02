package query

import (
	"slices"
	"testing"
	"unsafe"

	"flyover/api"
	"flyover/plain"
)

// plainDist is a second reading of DOC.md's distance: over all arcs.
func plainDist(g api.Graph, s, t int) api.Dist {
	return plain.Far(g.N, plain.Ways(g, plain.Count(len(g.Arcs))), s)[t]
}

// plainPiece is a second reading of 15.2, with g's weights.
func plainPiece(g api.Graph, n api.Nest, v, w int, back bool) (d []api.Dist, direct api.Dist) {
	home := n.Cells[0][v]
	ways := plain.Ways(g, plain.Inner(g, n, 1, home))
	far := func(other int) api.Dist {
		if back {
			return plain.Far(g.N, ways, other)[v]
		}
		return plain.Far(g.N, ways, v)[other]
	}
	for _, end := range plain.Boundary(g, n, 1, home) {
		d = append(d, far(end))
	}
	if n.Cells[0][w] != home {
		return d, api.Inf
	}
	return d, far(w)
}

// innerWeights are those of the arcs inside v's cell of the level 1.
func innerWeights(g api.Graph, n api.Nest, v int) []uint32 {
	return plain.Weights(g, plain.Inner(g, n, 1, n.Cells[0][v]))
}

// otherInside is g, but arcs inside cells of the level 1 have drawn weights.
func otherInside(draw func(int) int, g api.Graph, n api.Nest) api.Graph {
	h := plain.Reweighed(draw, g)
	for id, a := range g.Arcs {
		if n.Cells[0][a.From] != n.Cells[0][a.To] {
			h.Arcs[id] = a
		}
	}
	return h
}

func wantOK(t *testing.T, name string, all ...api.Errno) {
	t.Helper()
	for _, e := range all {
		if e != api.OK {
			t.Fatal(name, e)
		}
	}
}

func wantDist(t *testing.T, name string, got api.Dist, e api.Errno, want api.Dist) {
	t.Helper()
	if e != api.OK || got != want {
		t.Errorf("%s: %v, %v, want %v", name, got, e, want)
	}
}

func wantPiece(t *testing.T, name string, got []api.Dist, direct api.Dist, e api.Errno, want []api.Dist, wantDirect api.Dist) {
	t.Helper()
	if e != api.OK || !slices.Equal(got, want) || direct != wantDirect {
		t.Errorf("%s: %v, %v, %v, want %v, %v", name, got, direct, e, want, wantDirect)
	}
}

// wantNone asks for an error beside which nothing is told (R5).
func wantNone(t *testing.T, name string, got []api.Dist, d api.Dist, e, want api.Errno) {
	t.Helper()
	if e != want || len(got) != 0 || d != 0 {
		t.Errorf("%s: %v, %v, %v, want %v and nothing", name, got, d, e, want)
	}
}

// overlap says whether two lists share memory, their spare room too.
func overlap[A, B any](a []A, b []B) bool {
	if cap(a) == 0 || cap(b) == 0 {
		return false
	}
	var x A
	var y B
	from, to := uintptr(unsafe.Pointer(unsafe.SliceData(a))), uintptr(unsafe.Pointer(unsafe.SliceData(b)))
	return from < to+uintptr(cap(b))*unsafe.Sizeof(y) && to < from+uintptr(cap(a))*unsafe.Sizeof(x)
}
