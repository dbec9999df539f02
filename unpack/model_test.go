package unpack

import (
	"testing"
	"unsafe"

	"flyover/api"
	"flyover/plain"
)

// plainDist is a second reading of DOC.md's distance: over all arcs.
func plainDist(g api.Graph, s, t int) api.Dist {
	return plain.Far(g.N, plain.Ways(g, plain.Count(len(g.Arcs))), s)[t]
}

// plainInside is a second reading of DOC.md's distance within a cell.
func plainInside(g api.Graph, n api.Nest, level, cell, u, v int) api.Dist {
	return plain.Far(g.N, plain.Ways(g, plain.Inner(g, n, level, cell)), u)[v]
}

// plainLength is a second reading of DOC.md's walk and its length; false of what is no walk from s to t.
func plainLength(g api.Graph, s, t int, arcs []int) (d api.Dist, is bool) {
	at := s
	for _, id := range arcs {
		if id < 0 || id >= len(g.Arcs) || g.Arcs[id].From != at {
			return 0, false
		}
		at, d = g.Arcs[id].To, plain.Add(d, api.Dist(g.Arcs[id].Weight))
	}
	return d, at == t
}

// comesTwice answers whether a walk from s comes to a vertex more than once.
func comesTwice(g api.Graph, s int, arcs []int) bool {
	seen := make([]bool, g.N)
	seen[s] = true
	for _, id := range arcs {
		to := g.Arcs[id].To
		if seen[to] {
			return true
		}
		seen[to] = true
	}
	return false
}

// wantWalk asks for a walk from s to u of that length; for no arc, if it is Inf.
func wantWalk(t *testing.T, name string, g api.Graph, s, u int, arcs []int, d api.Dist, e api.Errno, want api.Dist) {
	t.Helper()
	if e != api.OK || d != want {
		t.Errorf("%s of %d, %d: %v, %v, %v, want %v", name, s, u, arcs, d, e, want)
		return
	}
	if want == api.Inf {
		if len(arcs) > 0 {
			t.Errorf("%s of %d, %d: %v, and there is no walk", name, s, u, arcs)
		}
		return
	}
	if length, is := plainLength(g, s, u, arcs); !is || length != want {
		t.Errorf("%s of %d, %d: %v: a walk: %v, of the length %v, want %v", name, s, u, arcs, is, length, want)
	}
}

// wantWithin asks, too, that all arcs begin and end in the cell.
func wantWithin(t *testing.T, g api.Graph, n api.Nest, level, cell, u, v int, want api.Dist) {
	t.Helper()
	arcs, d, e := Shortcut(g, n, level, cell, u, v)
	wantWalk(t, "Shortcut", g, u, v, arcs, d, e, want)
	for _, id := range arcs {
		if labels := n.Cells[level-1]; labels[g.Arcs[id].From] != cell || labels[g.Arcs[id].To] != cell {
			t.Errorf("Shortcut of %d, %d, %d, %d: %v leaves the cell", level, cell, u, v, arcs)
		}
	}
}

// wantNone asks for an error beside which nothing is told (R5).
func wantNone(t *testing.T, name string, arcs []int, d api.Dist, e, want api.Errno) {
	t.Helper()
	if e != want || len(arcs) != 0 || d != 0 {
		t.Errorf("%s: %v, %v, %v, want %v and nothing", name, arcs, d, e, want)
	}
}

func wantOK(t *testing.T, name string, all ...api.Errno) {
	t.Helper()
	for _, e := range all {
		if e != api.OK {
			t.Fatal(name, e)
		}
	}
}

// overlap says whether two lists share memory, their spare room too.
func overlap[A, B any](a []A, b []B) bool {
	if cap(a) == 0 || cap(b) == 0 {
		return false
	}
	var x A
	var y B
	from, to := uintptr(unsafe.Pointer(unsafe.SliceData(a))), uintptr(unsafe.Pointer(unsafe.SliceData(b)))
	return from < to+uintptr(cap(b))*unsafe.Sizeof(y) && to < from+uintptr(cap(a))*unsafe.Sizeof(x)
}
