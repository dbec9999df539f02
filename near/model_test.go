package near

import (
	"math"
	"slices"
	"testing"
	"unsafe"

	"flyover/api"
)

// plainWithin is a second reading of the chapter: it goes through all arcs again and again, until no distance becomes less.
func plainWithin(g api.Graph, s int, in []bool) []api.Dist {
	far := make([]api.Dist, g.N)
	for v := range far {
		far[v] = api.Inf
	}
	if !in[s] {
		return far
	}
	far[s] = 0
	for again := true; again; {
		again = false
		for _, arc := range g.Arcs {
			if !in[arc.From] || !in[arc.To] || far[arc.From] == api.Inf {
				continue
			}
			if d := far[arc.From] + api.Dist(arc.Weight); d < far[arc.To] {
				far[arc.To], again = d, true
			}
		}
	}
	return far
}

func plainFrom(g api.Graph, s int) []api.Dist { return plainWithin(g, s, all(g.N)) }

// all marks every vertex.
func all(n int) []bool {
	in := make([]bool, n)
	for v := range in {
		in[v] = true
	}
	return in
}

// triangle is the graph of the document's first example.
func triangle() api.Graph {
	return api.Graph{N: 3, Arcs: []api.Arc{{From: 0, To: 1, Weight: 5}, {From: 1, To: 2, Weight: 7}, {From: 0, To: 2, Weight: 20}}}
}

// tangle has arcs without a weight that go round, one from a vertex to itself, several between the same two, a vertex without an arc, one that is left but not come to, one the other way about.
func tangle() api.Graph {
	return api.Graph{N: 8, Arcs: []api.Arc{
		{From: 3, To: 1, Weight: 9}, {From: 1, To: 3}, {From: 3, To: 4}, {From: 4, To: 1}, {From: 1, To: 1}, {From: 3, To: 1, Weight: 8},
		{From: 0, To: 3, Weight: math.MaxUint32}, {From: 0, To: 4, Weight: math.MaxUint32 - 1}, {From: 4, To: 5, Weight: math.MaxUint32},
		{From: 4, To: 6, Weight: 2}, {From: 6, To: 5, Weight: 1}, {From: 6, To: 5, Weight: 3}, {From: 1, To: 6, Weight: 2},
	}}
}

// noise answers a function that draws numbers below a bound, the same ones each time.
func noise() func(bound int) int {
	state := uint32(1)
	return func(bound int) int {
		state = state*1664525 + 1013904223
		return int(state>>8) % bound
	}
}

// drawn answers a graph whose arcs are drawn, with weights from 0 to most.
func drawn(draw func(int) int, n, arcs, most int) api.Graph {
	g := api.Graph{N: n}
	for range arcs {
		g.Arcs = append(g.Arcs, api.Arc{From: draw(n), To: draw(n), Weight: uint32(draw(most + 1))})
	}
	return g
}

// street has an arc from each vertex to the next one.
func street(n int, weight uint32) api.Graph {
	g := api.Graph{N: n}
	for v := range n - 1 {
		g.Arcs = append(g.Arcs, api.Arc{From: v, To: v + 1, Weight: weight})
	}
	return g
}

// town is a square of streets in both directions, with drawn weights.
func town(draw func(int) int, side int) api.Graph {
	g := api.Graph{N: side * side}
	both := func(a, b int) {
		g.Arcs = append(g.Arcs, api.Arc{From: a, To: b, Weight: uint32(draw(50))}, api.Arc{From: b, To: a, Weight: uint32(draw(50))})
	}
	for v := range g.N {
		if (v+1)%side != 0 {
			both(v, v+1)
		}
		if v+side < g.N {
			both(v, v+side)
		}
	}
	return g
}

// smallGraphs goes through all graphs of at most most arcs with these weights.
func smallGraphs(n, most int, weights []uint32, do func(g api.Graph)) {
	var grow func(arcs []api.Arc)
	grow = func(arcs []api.Arc) {
		do(api.Graph{N: n, Arcs: arcs})
		if len(arcs) == most {
			return
		}
		for i := range n * n {
			for _, weight := range weights {
				grow(append(arcs[:len(arcs):len(arcs)], api.Arc{From: i / n, To: i % n, Weight: weight}))
			}
		}
	}
	grow(nil)
}

// manyGraphs goes through all small graphs, and through some that are greater.
func manyGraphs(do func(g api.Graph)) {
	do(triangle())
	do(tangle())
	smallGraphs(1, 3, []uint32{0, 1}, do)
	smallGraphs(2, 4, []uint32{0, 1}, do)
	smallGraphs(3, 3, []uint32{0, 1, 3}, do)
	smallGraphs(4, 3, []uint32{2}, do)
	draw := noise()
	for n := 1; n < 28; n++ {
		for _, most := range []int{0, 1, 9, 1 << 20} {
			do(drawn(draw, n, draw(3*n+1), most))
			do(drawn(draw, n, 2*n, most))
		}
	}
	do(street(30, 4))
	do(town(draw, 5))
}

// masks goes through all marks of a few vertices, and through drawn ones of more.
func masks(draw func(int) int, n int, do func(in []bool)) {
	if n > 4 {
		do(make([]bool, n))
		for range 6 {
			in := make([]bool, n)
			for v := range in {
				in[v] = draw(4) > 0
			}
			do(in)
		}
		do(all(n))
		return
	}
	for set := range 1 << n {
		in := make([]bool, n)
		for v := range in {
			in[v] = set>>v&1 == 1
		}
		do(in)
	}
}

func turned(g api.Graph) api.Graph {
	h := api.Graph{N: g.N, Arcs: make([]api.Arc, len(g.Arcs))}
	for id, arc := range g.Arcs {
		h.Arcs[id] = api.Arc{From: arc.To, To: arc.From, Weight: arc.Weight}
	}
	return h
}

func copyOf(g api.Graph) api.Graph {
	return api.Graph{N: g.N, Arcs: slices.Clone(g.Arcs)}
}

func wantDists(t *testing.T, name string, got []api.Dist, e api.Errno, want ...api.Dist) {
	t.Helper()
	if e != api.OK || !slices.Equal(got, want) {
		t.Errorf("%s: %v, %v, want %v", name, got, e, want)
	}
}

func wantDist(t *testing.T, name string, got api.Dist, e api.Errno, want api.Dist) {
	t.Helper()
	if e != api.OK || got != want {
		t.Errorf("%s: %d, %v, want %d", name, got, e, want)
	}
}

// wantWalk asks that arcs is a walk from s to t, as the document's words say, that it is d long, and that no vertex comes twice.
func wantWalk(t *testing.T, g api.Graph, s, end int, arcs []int, d api.Dist) {
	t.Helper()
	seen := make([]bool, g.N)
	seen[s] = true
	at, total := s, api.Dist(0)
	for _, id := range arcs {
		if id < 0 || id >= len(g.Arcs) || g.Arcs[id].From != at {
			t.Fatalf("Walk of %d, %d: %v is none of %v", s, end, arcs, g)
		}
		at, total = g.Arcs[id].To, total+api.Dist(g.Arcs[id].Weight)
		if seen[at] {
			t.Errorf("Walk of %d, %d: %v comes twice to %d of %v", s, end, arcs, at, g)
		}
		seen[at] = true
	}
	if at != end || total != d {
		t.Errorf("Walk of %d, %d: %v ends at %d after %d, want %d, of %v", s, end, arcs, at, total, d, g)
	}
}

// wantErrors asks of all calls but Length for these errors, and that nothing is told beside one (R5).
func wantErrors(t *testing.T, name string, g api.Graph, s, end int, in []bool, wantS, wantEnd, wantBoth, wantIn api.Errno) {
	t.Helper()
	if far, e := From(g, s); e != wantS || (e != api.OK && len(far) != 0) {
		t.Errorf("%s: From(%d): %v, %v, want %v", name, s, far, e, wantS)
	}
	if far, e := To(g, end); e != wantEnd || (e != api.OK && len(far) != 0) {
		t.Errorf("%s: To(%d): %v, %v, want %v", name, end, far, e, wantEnd)
	}
	if far, e := Within(g, s, in); e != wantIn || (e != api.OK && len(far) != 0) {
		t.Errorf("%s: Within(%d): %v, %v, want %v", name, s, far, e, wantIn)
	}
	if d, e := Between(g, s, end); e != wantBoth || (e != api.OK && d != 0) {
		t.Errorf("%s: Between(%d, %d): %d, %v, want %v", name, s, end, d, e, wantBoth)
	}
	if arcs, d, e := Walk(g, s, end); e != wantBoth || (e != api.OK && (d != 0 || len(arcs) != 0)) {
		t.Errorf("%s: Walk(%d, %d): %v, %d, %v, want %v", name, s, end, arcs, d, e, wantBoth)
	}
}

// wantNoLength asks for an error of Length, and that nothing is told beside it (R5).
func wantNoLength(t *testing.T, name string, g api.Graph, s, end int, arcs []int, want api.Errno) {
	t.Helper()
	if d, e := Length(g, s, end, arcs); e != want || d != 0 {
		t.Errorf("%s: Length(%d, %d) of %d arcs: %d, %v, want %v", name, s, end, len(arcs), d, e, want)
	}
}

// overlap says whether two lists share memory, their spare room too.
func overlap[A, B any](a []A, b []B) bool {
	if cap(a) == 0 || cap(b) == 0 {
		return false
	}
	var x A
	var y B
	from, to := uintptr(unsafe.Pointer(unsafe.SliceData(a))), uintptr(unsafe.Pointer(unsafe.SliceData(b)))
	return from < to+uintptr(cap(b))*unsafe.Sizeof(y) && to < from+uintptr(cap(a))*unsafe.Sizeof(x)
}
