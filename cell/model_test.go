package cell

import (
	"slices"
	"testing"
	"unsafe"

	"flyover/api"
	"flyover/plain"
)

// plainMembers goes through all vertices for one cell.
func plainMembers(n api.Nest, level, cell int) []int {
	var l []int
	for v, label := range n.Cells[level-1] {
		if label == cell {
			l = append(l, v)
		}
	}
	return l
}

func plainMany(n api.Nest, level int) int { return slices.Max(n.Cells[level-1]) + 1 }

// plainBoundary is a second reading of DOC.md: of each vertex of the cell all vertices are asked whether they are neighbours outside of it.
func plainBoundary(g api.Graph, n api.Nest, level, cell int) []int {
	var l []int
	members := plainMembers(n, level, cell)
	for _, v := range members {
		outside := func(a api.Arc) bool {
			return a.From == v && !slices.Contains(members, a.To) || a.To == v && !slices.Contains(members, a.From)
		}
		if slices.ContainsFunc(g.Arcs, outside) {
			l = append(l, v)
		}
	}
	return l
}

func plainInner(g api.Graph, n api.Nest, level, cell int) []int {
	var l []int
	members := plainMembers(n, level, cell)
	for id, a := range g.Arcs {
		if slices.Contains(members, a.From) && slices.Contains(members, a.To) {
			l = append(l, id)
		}
	}
	return l
}

// plainOuter are the arcs that are inside of no cell of the level.
func plainOuter(g api.Graph, n api.Nest, level int) []int {
	within := make([]int, len(g.Arcs))
	for cell := range plainMany(n, level) {
		for _, id := range plainInner(g, n, level, cell) {
			within[id]++
		}
	}
	var l []int
	for id, many := range within {
		if many == 0 {
			l = append(l, id)
		}
	}
	return l
}

// plainBetween are the arcs that are inside of the cell, and of none of the level below.
func plainBetween(g api.Graph, n api.Nest, level, cell int) []int {
	var l []int
	outer := plainOuter(g, n, level-1)
	for _, id := range plainInner(g, n, level, cell) {
		if slices.Contains(outer, id) {
			l = append(l, id)
		}
	}
	return l
}

// plainStale asks of each cell whether one of the arcs is among those inside of it.
func plainStale(g api.Graph, n api.Nest, arcs []int) [][]int {
	all := make([][]int, len(n.Cells))
	for at := range all {
		for cell := range plainMany(n, at+1) {
			inner := plainInner(g, n, at+1, cell)
			if slices.ContainsFunc(arcs, func(id int) bool { return slices.Contains(inner, id) }) {
				all[at] = append(all[at], cell)
			}
		}
	}
	return all
}

// ends takes for each arc where it begins and where it ends.
func ends(n int, vertices ...int) api.Graph {
	g := api.Graph{N: n}
	for i := 0; i < len(vertices); i += 2 {
		g.Arcs = append(g.Arcs, api.Arc{From: vertices[i], To: vertices[i+1]})
	}
	return g
}

// three is the graph of DOC.md's examples.
func three() api.Graph {
	return api.Graph{N: 3, Arcs: []api.Arc{{From: 0, To: 1, Weight: 5}, {From: 1, To: 2, Weight: 7}, {From: 0, To: 2, Weight: 20}}}
}

// way is a row of vertices 0 - 1 - 2 and so on.
func way(n int) api.Graph {
	g := api.Graph{N: n}
	for v := 1; v < n; v++ {
		g.Arcs = append(g.Arcs, api.Arc{From: v, To: v - 1})
	}
	return g
}

// ladder is a nest of eight vertices whose cells hang on no arcs, and a graph with arcs in both directions, several between the same two, and some from a vertex to itself.
func ladder() (api.Graph, api.Nest) {
	g := ends(8, 2, 0, 7, 7, 1, 5, 5, 1, 4, 1, 3, 6, 0, 3, 0, 3, 6, 6, 5, 6, 4, 4)
	return g, plain.Cells([]int{3, 4, 8}, []int{0, 1, 0, 2, 3, 1, 4, 0}, []int{0, 1, 0, 2, 1, 1, 2, 0}, []int{0, 1, 0, 0, 1, 1, 0, 0})
}

func drawn(draw func(int) int, n, many int) api.Graph {
	g := api.Graph{N: n}
	for range many {
		g.Arcs = append(g.Arcs, api.Arc{From: draw(n), To: draw(n), Weight: uint32(draw(1 << 20))})
	}
	return g
}

// drawnList has so many numbers below a bound, or none where there is no such number.
func drawnList(draw func(int) int, many, bound int) []int {
	var l []int
	for range many {
		if bound > 0 {
			l = append(l, draw(bound))
		}
	}
	return l
}

// allGraphs are of n vertices, with each arc that may be, or without it; the arcs stand in another order in each second one.
func allGraphs(n int) []api.Graph {
	var all []api.Graph
	for set := range 1 << (n * n) {
		g := api.Graph{N: n}
		for at := range n * n {
			if set>>at&1 == 1 {
				g.Arcs = append(g.Arcs, api.Arc{From: at / n, To: at % n})
			}
		}
		if set%2 == 1 {
			slices.Reverse(g.Arcs)
		}
		all = append(all, g)
	}
	return all
}

// greatGraphs are as great as graphs may be, in vertices, arcs or both.
func greatGraphs() []api.Graph {
	draw := plain.Noise()
	return []api.Graph{
		way(api.MaxVertices), {N: api.MaxVertices}, {N: 1, Arcs: make([]api.Arc, api.MaxArcs)}, {N: api.MaxVertices, Arcs: make([]api.Arc, api.MaxArcs)},
		drawn(draw, api.MaxVertices, api.MaxVertices), drawn(draw, api.MaxVertices, api.MaxArcs), drawn(draw, 90, api.MaxArcs),
	}
}

func wantOK(t *testing.T, name string, all ...api.Errno) {
	t.Helper()
	for _, e := range all {
		if e != api.OK {
			t.Fatal(name, e)
		}
	}
}

func wantNumber(t *testing.T, name string, got int, e api.Errno, want int) {
	t.Helper()
	if e != api.OK || got != want {
		t.Errorf("%s: %v, %v, want %v", name, got, e, want)
	}
}

func wantList(t *testing.T, name string, got []int, e api.Errno, want ...int) {
	t.Helper()
	if e != api.OK || !slices.Equal(got, want) {
		t.Errorf("%s: %v, %v, want %v", name, got, e, want)
	}
}

func wantLists(t *testing.T, name string, got [][]int, e api.Errno, want ...[]int) {
	t.Helper()
	if e != api.OK || !slices.EqualFunc(got, want, slices.Equal) {
		t.Errorf("%s: %v, %v, want %v", name, got, e, want)
	}
}

// wantNoNumber and wantNothing ask for an error beside which nothing is told (R5).
func wantNoNumber(t *testing.T, name string, got int, e, want api.Errno) {
	t.Helper()
	if got != 0 || e != want {
		t.Errorf("%s: %d, %v, want %v and nothing", name, got, e, want)
	}
}

func wantNothing[T any](t *testing.T, name string, got []T, e, want api.Errno) {
	t.Helper()
	if len(got) != 0 || e != want {
		t.Errorf("%s: %v, %v, want %v and nothing", name, got, e, want)
	}
}

// overlap says whether two lists share memory, their spare room too.
func overlap[A, B any](a []A, b []B) bool {
	if cap(a) == 0 || cap(b) == 0 {
		return false
	}
	var x A
	var y B
	from, to := uintptr(unsafe.Pointer(unsafe.SliceData(a))), uintptr(unsafe.Pointer(unsafe.SliceData(b)))
	return from < to+uintptr(cap(b))*unsafe.Sizeof(y) && to < from+uintptr(cap(a))*unsafe.Sizeof(x)
}
