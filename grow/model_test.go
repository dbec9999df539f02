package grow

import (
	"math"
	"slices"
	"testing"
	"unsafe"

	"flyover/api"
)

// plainNeighbours is a second reading of the document's words: all vertices are asked, one by one.
func plainNeighbours(g api.Graph, v int) []int {
	var l []int
	for w := range g.N {
		if w != v && slices.ContainsFunc(g.Arcs, func(a api.Arc) bool {
			return (a.From == v && a.To == w) || (a.From == w && a.To == v)
		}) {
			l = append(l, w)
		}
	}
	return l
}

// allNeighbours are those of each vertex.
func allNeighbours(g api.Graph) [][]int {
	l := make([][]int, g.N)
	for v := range l {
		if g.N <= 64 {
			l[v] = plainNeighbours(g, v)
		}
	}
	if g.N <= 64 {
		return l
	}
	// The greatest graphs are gone through arc by arc, or it would take too long.
	for _, a := range g.Arcs {
		if a.From != a.To {
			l[a.From], l[a.To] = append(l[a.From], a.To), append(l[a.To], a.From)
		}
	}
	for v := range l {
		slices.Sort(l[v])
		l[v] = slices.Compact(l[v])
	}
	return l
}

// plainAround is a second reading of the chapter: the order around a centre, behind what is told already.
func plainAround(beside [][]int, told []int, centre int) []int {
	l := []int{centre}
	for at := 0; at < len(l); at++ {
		for _, v := range beside[l[at]] {
			if !slices.Contains(l, v) && !slices.Contains(told, v) {
				l = append(l, v)
			}
		}
	}
	return l
}

func plainOrder(beside [][]int) []int {
	var told []int
	for len(told) < len(beside) {
		centre := 0
		for slices.Contains(told, centre) {
			centre++
		}
		told = append(told, plainAround(beside, told, centre)...)
	}
	return told
}

func plainRing(beside [][]int, members []int) []int {
	var l []int
	for v := range beside {
		if !slices.Contains(members, v) && slices.ContainsFunc(beside[v], func(w int) bool { return slices.Contains(members, w) }) {
			l = append(l, v)
		}
	}
	return l
}

// stepsFrom tells how many steps from neighbour to neighbour each vertex lies off; -1, if it is not connected.
func stepsFrom(g api.Graph, centre int) []int {
	steps := make([]int, g.N)
	for v := range steps {
		steps[v] = -1
	}
	steps[centre] = 0
	for again := true; again; {
		again = false
		for _, a := range g.Arcs {
			for _, pair := range [][2]int{{a.From, a.To}, {a.To, a.From}} {
				from, to := pair[0], pair[1]
				if steps[from] >= 0 && (steps[to] < 0 || steps[to] > steps[from]+1) {
					steps[to], again = steps[from]+1, true
				}
			}
		}
	}
	return steps
}

// way is a row of vertices 0 - 1 - 2 and so on, whose arcs go to and fro.
func way(n int) api.Graph {
	g := api.Graph{N: n}
	for v := range n - 1 {
		arc := api.Arc{From: v, To: v + 1, Weight: uint32(v)}
		if v%2 == 1 {
			arc.From, arc.To = arc.To, arc.From
		}
		g.Arcs = append(g.Arcs, arc)
	}
	return g
}

// star has arcs from the last vertex to all others, the greater ones first.
func star(n int) api.Graph {
	g := api.Graph{N: n}
	for v := n - 2; v >= 0; v-- {
		g.Arcs = append(g.Arcs, api.Arc{From: n - 1, To: v})
	}
	return g
}

// tangle has several arcs between the same two in both directions, arcs from a vertex to itself, weights that say another order, two parts and vertices without another one beside them.
func tangle() api.Graph {
	return api.Graph{N: 10, Arcs: []api.Arc{
		{From: 7, To: 3, Weight: 1}, {From: 3, To: 7, Weight: 9}, {From: 7, To: 3, Weight: 1}, {From: 3, To: 3, Weight: 0}, {From: 3, To: 9, Weight: 2},
		{From: 0, To: 3, Weight: math.MaxUint32}, {From: 9, To: 0}, {From: 2, To: 9}, {From: 7, To: 1}, {From: 1, To: 2}, {From: 1, To: 7},
		{From: 8, To: 4, Weight: 3}, {From: 6, To: 6}, {From: 8, To: 8},
	}}
}

// town is a square of streets.
func town(side int) api.Graph {
	g := api.Graph{N: side * side}
	for v := range g.N {
		if (v+1)%side != 0 {
			g.Arcs = append(g.Arcs, api.Arc{From: v + 1, To: v}, api.Arc{From: v, To: v + 1})
		}
		if v+side < g.N {
			g.Arcs = append(g.Arcs, api.Arc{From: v, To: v + side})
		}
	}
	return g
}

// noise answers a function that draws numbers below a bound, the same ones each time.
func noise() func(bound int) int {
	state := uint32(1)
	return func(bound int) int {
		state = state*1664525 + 1013904223
		return int(state>>8) % bound
	}
}

func drawn(draw func(int) int, n, arcs int) api.Graph {
	g := api.Graph{N: n}
	for range arcs {
		g.Arcs = append(g.Arcs, api.Arc{From: draw(n), To: draw(n), Weight: uint32(draw(1 << 20))})
	}
	return g
}

// smallGraphs goes through all graphs of at most most arcs.
func smallGraphs(n, most int, do func(g api.Graph)) {
	var longer func(arcs []api.Arc)
	longer = func(arcs []api.Arc) {
		do(api.Graph{N: n, Arcs: arcs})
		if len(arcs) == most {
			return
		}
		for i := range n * n {
			longer(append(arcs[:len(arcs):len(arcs)], api.Arc{From: i / n, To: i % n}))
		}
	}
	longer(nil)
}

// pairGraphs goes through all ways in which n vertices can be neighbours.
func pairGraphs(n int, do func(g api.Graph)) {
	var pairs []api.Arc
	for a := range n {
		for b := a + 1; b < n; b++ {
			pairs = append(pairs, api.Arc{From: b, To: a})
		}
	}
	for set := range 1 << len(pairs) {
		g := api.Graph{N: n}
		for i := range pairs {
			// The later pairs first, so that neighbours don't come rising by themselves.
			if at := len(pairs) - 1 - i; set>>at&1 == 1 {
				g.Arcs = append(g.Arcs, pairs[at])
			}
		}
		do(g)
	}
}

// manyGraphs goes through all small graphs, and through some that are greater.
func manyGraphs(do func(g api.Graph)) {
	do(tangle())
	do(way(9))
	do(star(9))
	do(town(5))
	smallGraphs(1, 3, do)
	smallGraphs(2, 4, do)
	smallGraphs(3, 3, do)
	smallGraphs(4, 2, do)
	pairGraphs(4, do)
	pairGraphs(5, do)
	draw := noise()
	for n := 1; n < 30; n++ {
		for range 4 {
			do(drawn(draw, n, draw(3*n+1)))
		}
	}
}

// greatGraphs are as great as graphs may be, in vertices, arcs or both.
func greatGraphs() []api.Graph {
	draw := noise()
	return []api.Graph{
		way(api.MaxVertices), star(api.MaxVertices), town(32), {N: api.MaxVertices}, {N: 1, Arcs: make([]api.Arc, api.MaxArcs)},
		drawn(draw, api.MaxVertices, api.MaxVertices/2), drawn(draw, api.MaxVertices, api.MaxVertices), drawn(draw, api.MaxVertices, api.MaxArcs), drawn(draw, 90, api.MaxArcs),
	}
}

// masks goes through all lists of members that rise or fall, of a few vertices, and through drawn ones of more.
func masks(draw func(int) int, n int, do func(members []int)) {
	sets := 8
	if n <= 5 {
		sets = 1 << n
	}
	for set := range sets {
		var members []int
		for v := range n {
			if (n <= 5 && set>>v&1 == 1) || (n > 5 && draw(8) < set) {
				members = append(members, v)
			}
		}
		do(members)
		turned := slices.Clone(members)
		slices.Reverse(turned)
		do(turned)
	}
}

func wantList(t *testing.T, name string, got []int, e api.Errno, want ...int) {
	t.Helper()
	if e != api.OK || !slices.Equal(got, want) {
		t.Errorf("%s: %v, %v, want %v", name, got, e, want)
	}
}

// wantNone asks for an error beside which nothing is told (R5).
func wantNone(t *testing.T, name string, got []int, e, want api.Errno) {
	t.Helper()
	if e != want || len(got) != 0 {
		t.Errorf("%s: %v, %v, want %v and nothing", name, got, e, want)
	}
}

// noVertices are none of a graph with n vertices.
func noVertices(n int) []int {
	return []int{math.MinInt, -n, -1, n, n + 1, api.MaxItems, math.MaxInt}
}

// count is 0, 1, 2 and so on.
func count(n int) []int {
	l := make([]int, n)
	for i := range l {
		l[i] = i
	}
	return l
}

// overlap says whether two lists share memory, their spare room too.
func overlap[A, B any](a []A, b []B) bool {
	if cap(a) == 0 || cap(b) == 0 {
		return false
	}
	var x A
	var y B
	from, to := uintptr(unsafe.Pointer(unsafe.SliceData(a))), uintptr(unsafe.Pointer(unsafe.SliceData(b)))
	return from < to+uintptr(cap(b))*unsafe.Sizeof(y) && to < from+uintptr(cap(a))*unsafe.Sizeof(x)
}
