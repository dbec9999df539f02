package graph

import (
	"math"
	"slices"
	"testing"

	"flyover/api"
)

func wantList(t *testing.T, name string, l []int, e api.Errno, want ...int) {
	t.Helper()
	if e != api.OK || !slices.Equal(l, want) {
		t.Errorf("%s: %v, %v, want %v", name, l, e, want)
	}
}

// rising answers the numbers from 0 on.
func rising(size int) []int {
	l := make([]int, size)
	for i := range l {
		l[i] = i
	}
	return l
}

// slowNeighbours asks of each other vertex whether an arc goes to it or from it.
func slowNeighbours(g api.Graph, v int) []int {
	var l []int
	for w := range g.N {
		if w != v && slices.ContainsFunc(g.Arcs, func(a api.Arc) bool {
			return a.From == v && a.To == w || a.From == w && a.To == v
		}) {
			l = append(l, w)
		}
	}
	return l
}

// wantTable asks for the arcs out of each vertex, those into it, and its neighbours.
func wantTable(t *testing.T, g api.Graph, table ...[3][]int) {
	t.Helper()
	for v, want := range table {
		out, e := Out(g, v)
		wantList(t, "Out", out, e, want[0]...)
		in, e := In(g, v)
		wantList(t, "In", in, e, want[1]...)
		near, e := Neighbours(g, v)
		wantList(t, "Neighbours", near, e, want[2]...)
	}
}

// Promise 3.2: the chapter's example; arcs to itself, several arcs between the same two, both ways, a vertex without an arc; no arc at all.
func TestLists(t *testing.T) {
	wantTable(t, triangle(), [3][]int{{0, 2}, {}, {1, 2}}, [3][]int{{1}, {0}, {0, 2}}, [3][]int{{}, {1, 2}, {0, 1}})
	wantTable(t, tangle(),
		[3][]int{{5}, {4}, {2, 5}},
		[3][]int{{1, 6}, {0, 2, 6, 7}, {4}},
		[3][]int{{3}, {3, 5}, {0}},
		[3][]int{{}, {}, {}},
		[3][]int{{0, 2, 7}, {1}, {1}},
		[3][]int{{4}, {}, {0}},
	)
	wantTable(t, api.Graph{N: 2}, [3][]int{}, [3][]int{})
}

// Promise 3.2: a vertex that is none, also in a graph without arcs, one with one vertex, and the greatest one.
func TestListsNone(t *testing.T) {
	for _, g := range []api.Graph{triangle(), tangle(), {N: 1}, {N: 1, Arcs: []api.Arc{{}}}, {N: api.MaxVertices}} {
		for _, v := range []int{math.MinInt, -g.N, -1, g.N, g.N + 1, api.MaxVertices, math.MaxInt} {
			out, e1 := Out(g, v)
			in, e2 := In(g, v)
			near, e3 := Neighbours(g, v)
			if e1 != api.ErrNone || e2 != api.ErrNone || e3 != api.ErrNone || len(out)+len(in)+len(near) != 0 {
				t.Errorf("vertex %d of %d: %v %v %v, %v %v %v", v, g.N, out, in, near, e1, e2, e3)
			}
		}
	}
}

// Promise 3.2: at the limits: one vertex with all arcs, one with all others as neighbours.
func TestListsLimits(t *testing.T) {
	all := rising(api.MaxArcs)
	g := api.Graph{N: 1, Arcs: make([]api.Arc, api.MaxArcs)}
	out, e := Out(g, 0)
	wantList(t, "Out", out, e, all...)
	in, e := In(g, 0)
	wantList(t, "In", in, e, all...)
	near, e := Neighbours(g, 0)
	wantList(t, "Neighbours", near, e)

	g = api.Graph{N: api.MaxVertices}
	hub := api.MaxVertices / 2
	for v := api.MaxVertices - 1; v >= 0; v-- {
		arc := api.Arc{From: hub, To: v}
		if v%3 == 0 {
			arc = api.Arc{From: v, To: hub}
		}
		g.Arcs = append(g.Arcs, arc)
	}
	near, e = Neighbours(g, hub)
	wantList(t, "Neighbours of all", near, e, slices.Delete(all[:api.MaxVertices:api.MaxVertices], hub, hub+1)...)
	near, e = Neighbours(g, api.MaxVertices-1)
	wantList(t, "Neighbours of the last", near, e, hub)
}

// wantLists holds the lists of a vertex against what the words of the chapter say.
func wantLists(t *testing.T, g api.Graph, v int) (out, in []int) {
	t.Helper()
	var wantOut, wantIn []int
	for id, arc := range g.Arcs {
		if arc.From == v {
			wantOut = append(wantOut, id)
		}
		if arc.To == v {
			wantIn = append(wantIn, id)
		}
	}
	out, e := Out(g, v)
	wantList(t, "Out", out, e, wantOut...)
	in, e = In(g, v)
	wantList(t, "In", in, e, wantIn...)
	near, e := Neighbours(g, v)
	wantList(t, "Neighbours", near, e, slowNeighbours(g, v)...)
	return out, in
}

// Promises 3.2, 3.6: of many graphs, all lists; each arc is out of one vertex and into one.
func TestListsOfAll(t *testing.T) {
	manyGraphs(func(g api.Graph) {
		if g.N*len(g.Arcs) > 1<<20 {
			return
		}
		outs, ins := make([]int, len(g.Arcs)), make([]int, len(g.Arcs))
		for v := range g.N {
			out, in := wantLists(t, g, v)
			for _, id := range out {
				outs[id]++
			}
			for _, id := range in {
				ins[id]++
			}
		}
		for id := range g.Arcs {
			if outs[id] != 1 || ins[id] != 1 {
				t.Errorf("the arc %d is out of %d vertices and into %d", id, outs[id], ins[id])
			}
		}
	})
	draw := noise()
	g := drawn(draw, api.MaxVertices, api.MaxArcs)
	for range 20 {
		wantLists(t, g, draw(g.N))
	}
}

// Promises 3.2, 3.6: turned about, what was out of a vertex is into it; neighbours stay.
func TestListsReversed(t *testing.T) {
	manyGraphs(func(g api.Graph) {
		h, _ := Reverse(g)
		for v := range min(g.N, 8) {
			out, e := Out(h, v)
			into, _ := In(g, v)
			wantList(t, "Out of the reverse", out, e, into...)
			near, e := Neighbours(h, v)
			before, _ := Neighbours(g, v)
			wantList(t, "Neighbours of the reverse", near, e, before...)
			for _, w := range near {
				if back, _ := Neighbours(g, w); !slices.Contains(back, v) {
					t.Errorf("%d has the neighbour %d, but not the other way about", v, w)
				}
			}
		}
	})
}
