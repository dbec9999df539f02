package natcut

import (
	"math"
	"slices"
	"testing"
	"unsafe"

	"flyover/api"
	"flyover/graph"
	"flyover/grow"
)

// plainPairs is a second reading of the chapter: all two vertices are asked, one by one.
func plainPairs(g api.Graph) []api.Pair {
	beside := map[api.Pair]int{}
	for _, a := range g.Arcs {
		beside[api.Pair{A: a.From, B: a.To}]++
	}
	var l []api.Pair
	for a := range g.N {
		for b := a + 1; b < g.N; b++ {
			if beside[api.Pair{A: a, B: b}]+beside[api.Pair{A: b, B: a}] > 0 {
				l = append(l, api.Pair{A: a, B: b})
			}
		}
	}
	return l
}

// parted are the pairs of which one end is on a side and the other one is not.
func parted(all []api.Pair, side []bool) []api.Pair {
	var l []api.Pair
	for _, p := range all {
		if side[p.A] != side[p.B] {
			l = append(l, p)
		}
	}
	return l
}

// kept are the pairs without some.
func kept(all, without []api.Pair) []api.Pair {
	return slices.DeleteFunc(slices.Clone(all), func(p api.Pair) bool { return slices.Contains(without, p) })
}

// surroundings are the region around a centre, how many of it are the core, and those that are outside.
func surroundings(t *testing.T, g api.Graph, centre, most int) (region []int, core int, outside []int) {
	t.Helper()
	region, e := grow.Region(g, centre, most)
	middle, e2 := grow.Core(g, centre, most)
	if e != api.OK || e2 != api.OK || !slices.Equal(region[:len(middle)], middle) {
		t.Fatal(region, e, middle, e2)
	}
	for v := range g.N {
		if !slices.Contains(region, v) {
			outside = append(outside, v)
		}
	}
	return region, len(middle), outside
}

// plainCut is a second reading of the chapter: it goes through all cuts. There must be just one of the least ones with the fewest nodes.
func plainCut(t *testing.T, g api.Graph, all []api.Pair, centre, most int) []api.Pair {
	t.Helper()
	region, core, outside := surroundings(t, g, centre, most)
	if len(outside) == 0 {
		return nil
	}
	others := region[core:]
	var best []api.Pair
	least, fewest, as := math.MaxInt, 0, 0
	for set := range 1 << len(others) {
		side, size := make([]bool, g.N), 0
		for _, v := range region[:core] {
			side[v] = true
		}
		for i, v := range others {
			side[v] = set>>i&1 == 1
			size += set >> i & 1
		}
		cut := parted(all, side)
		if len(cut) < least || (len(cut) == least && size < fewest) {
			best, least, fewest, as = cut, len(cut), size, 0
		}
		if len(cut) == least && size == fewest {
			as++
		}
	}
	if as != 1 {
		t.Fatalf("around %d of %d of %v: %d least cuts with the fewest nodes", centre, most, g, as)
	}
	return best
}

// stepwiseCut finds the cut of greater graphs: ways from the core to the outside are taken one by one, each pair of them in one direction once, until there is none any more; then it lies around all that is still reached.
func stepwiseCut(t *testing.T, g api.Graph, all []api.Pair, centre, most int) []api.Pair {
	t.Helper()
	region, core, outside := surroundings(t, g, centre, most)
	beside, used := make([][]int, g.N), map[api.Pair]int{}
	for _, p := range all {
		beside[p.A], beside[p.B] = append(beside[p.A], p.B), append(beside[p.B], p.A)
	}
	out := make([]bool, g.N)
	for _, v := range outside {
		out[v] = true
	}
	for {
		side, from, end := make([]bool, g.N), make([]int, g.N), -1
		list := slices.Clone(region[:core])
		for _, v := range list {
			side[v], from[v] = true, -1
		}
		for at := 0; at < len(list) && end < 0; at++ {
			for _, w := range beside[list[at]] {
				if side[w] || used[api.Pair{A: list[at], B: w}] == 1 {
					continue
				}
				side[w], from[w] = true, list[at]
				list = append(list, w)
				if out[w] {
					end = w
					break
				}
			}
		}
		if end < 0 {
			return parted(all, side)
		}
		for ; from[end] >= 0; end = from[end] {
			used[api.Pair{A: from[end], B: end}]++
			used[api.Pair{A: end, B: from[end]}]--
		}
	}
}

// plainMarks are the pairs of all cuts, each once, in order.
func plainMarks(all []api.Pair, cuts ...[]api.Pair) []api.Pair {
	var l []api.Pair
	for _, p := range all {
		if slices.ContainsFunc(cuts, func(cut []api.Pair) bool { return slices.Contains(cut, p) }) {
			l = append(l, p)
		}
	}
	return l
}

// spread tells which vertices are connected with some by these pairs.
func spread(n int, by []api.Pair, from ...int) []bool {
	in := make([]bool, n)
	for _, v := range from {
		in[v] = true
	}
	for again := true; again; {
		again = false
		for _, p := range by {
			if in[p.A] != in[p.B] {
				in[p.A], in[p.B], again = true, true, true
			}
		}
	}
	return in
}

// plainFragments is a second reading of the chapter: from the least vertex that has no label yet all that it is connected with gets the next one.
func plainFragments(n int, all, marks []api.Pair) []int {
	by, labels, next := kept(all, marks), slices.Repeat([]int{-1}, n), 0
	for v := range n {
		if labels[v] >= 0 {
			continue
		}
		for w, in := range spread(n, by, v) {
			if in {
				labels[w] = next
			}
		}
		next++
	}
	return labels
}

// isTidy is a second reading of DOC.md: no label is left out, and their least vertices rise.
func isTidy(labels []int) bool {
	if len(labels) == 0 || slices.Min(labels) != 0 || slices.Max(labels) >= len(labels) {
		return false
	}
	least := -1
	for label := range slices.Max(labels) + 1 {
		at := slices.Index(labels, label)
		if at < 0 || at < least {
			return false
		}
		least = at
	}
	return true
}

// triangles are the two of the chapter's example.
func triangles() api.Graph {
	return arcs(6, 0, 1, 1, 2, 2, 0, 3, 4, 4, 5, 5, 3, 2, 3, 3, 2)
}

// tangle has several arcs between the same two in both directions, arcs from a vertex to itself, weights that say otherwise, parts, and vertices without a neighbour.
func tangle() api.Graph {
	g := arcs(11, 7, 3, 3, 7, 7, 3, 3, 3, 3, 9, 0, 3, 9, 0, 2, 9, 7, 1, 1, 2, 1, 7, 8, 4, 6, 6, 8, 8, 10, 2, 5, 10, 5, 1)
	for id := range g.Arcs {
		g.Arcs[id].Weight = math.MaxUint32 - uint32(id%3)
	}
	return g
}

// arcs takes for each arc where it begins and where it ends.
func arcs(n int, ends ...int) api.Graph {
	g := api.Graph{N: n}
	for i := 0; i < len(ends); i += 2 {
		g.Arcs = append(g.Arcs, api.Arc{From: ends[i], To: ends[i+1]})
	}
	return g
}

// pairs takes for each pair both of its vertices.
func pairs(ends ...int) []api.Pair {
	var l []api.Pair
	for i := 0; i < len(ends); i += 2 {
		l = append(l, api.Pair{A: ends[i], B: ends[i+1]})
	}
	return l
}

// way is a row of vertices 0 - 1 - 2 and so on.
func way(n int) api.Graph {
	g := api.Graph{N: n}
	for v := 1; v < n; v++ {
		g.Arcs = append(g.Arcs, api.Arc{From: v, To: v - 1})
	}
	return g
}

// towns are squares of streets; a single bridge leads from each to the next one.
func towns(many, side int) api.Graph {
	size := side * side
	g := api.Graph{N: many * size}
	for v := range g.N {
		if (v+1)%side != 0 {
			g.Arcs = append(g.Arcs, api.Arc{From: v, To: v + 1})
		}
		if v%size+side < size {
			g.Arcs = append(g.Arcs, api.Arc{From: v + side, To: v})
		}
		if v >= size && v%size == 0 {
			g.Arcs = append(g.Arcs, api.Arc{From: v, To: v - 1})
		}
	}
	return g
}

// crowd has arcs between all vertices, as far as a graph may have arcs.
func crowd(n int) api.Graph {
	g := api.Graph{N: n}
	for a := range n {
		for b := range a {
			if len(g.Arcs) < api.MaxArcs {
				g.Arcs = append(g.Arcs, api.Arc{From: a, To: b})
			}
		}
	}
	return g
}

// noise answers a function that draws numbers below a bound, the same ones each time.
func noise() func(bound int) int {
	state := uint32(1)
	return func(bound int) int {
		state = state*1664525 + 1013904223
		return int(state>>8) % bound
	}
}

func drawn(draw func(int) int, n, many int) api.Graph {
	g := api.Graph{N: n}
	for range many {
		g.Arcs = append(g.Arcs, api.Arc{From: draw(n), To: draw(n), Weight: uint32(draw(1 << 20))})
	}
	return g
}

// allGraphs goes through all ways in which n vertices can be neighbours.
func allGraphs(n int, do func(g api.Graph)) {
	all := plainPairs(crowd(n))
	for set := range 1 << len(all) {
		g := api.Graph{N: n}
		for at, p := range slices.Backward(all) {
			if set>>at&1 == 1 {
				g.Arcs = append(g.Arcs, api.Arc{From: p.B, To: p.A})
			}
		}
		do(g)
	}
}

// manyGraphs goes through all small graphs, and through some that are greater.
func manyGraphs(do func(g api.Graph)) {
	for _, g := range []api.Graph{triangles(), tangle(), way(9), towns(1, 3), towns(3, 2), crowd(7), arcs(1, 0, 0), arcs(2, 1, 0, 0, 1)} {
		do(g)
	}
	for n := 1; n < 6; n++ {
		allGraphs(n, do)
	}
	draw := noise()
	for n := 2; n < 14; n++ {
		for range 6 {
			do(drawn(draw, n, draw(3*n+1)))
		}
	}
}

// greatGraphs are as great as graphs may be, in vertices, arcs or both.
func greatGraphs() []api.Graph {
	draw := noise()
	ring := way(api.MaxVertices)
	for _, step := range []int{2, 3, 5, 8, 13, 21, 34} {
		for v := range ring.N {
			ring.Arcs = append(ring.Arcs, api.Arc{From: v, To: (v + step) % ring.N})
		}
	}
	return []api.Graph{
		way(api.MaxVertices), towns(1, 32), towns(16, 8), towns(64, 4), crowd(128), ring,
		{N: api.MaxVertices}, {N: 1, Arcs: make([]api.Arc, api.MaxArcs)},
		drawn(draw, api.MaxVertices, api.MaxVertices), drawn(draw, api.MaxVertices, 2*api.MaxVertices), drawn(draw, api.MaxVertices, api.MaxArcs), drawn(draw, 90, api.MaxArcs),
	}
}

// count is 0, 1, 2 and so on.
func count(n int) []int {
	l := make([]int, n)
	for i := range l {
		l[i] = i
	}
	return l
}

// noVertices are none of a graph with n vertices.
func noVertices(n int) []int {
	return []int{math.MinInt, -n, -1, n, n + 1, api.MaxItems, math.MaxInt}
}

// wrongSizes are none that a region may have.
func wrongSizes() []int {
	return []int{math.MinInt, -1, 0, api.MaxVertices + 1, math.MaxInt}
}

func want[T comparable](t *testing.T, name string, got []T, e api.Errno, want ...T) {
	t.Helper()
	if e != api.OK || !slices.Equal(got, want) {
		t.Errorf("%s: %v, %v, want %v", name, got, e, want)
	}
}

// wantError asks for an error beside which nothing is told (R5).
func wantError[T any](t *testing.T, name string, got []T, e, want api.Errno) {
	t.Helper()
	if e != want || len(got) != 0 {
		t.Errorf("%s: %v, %v, want %v and nothing", name, got, e, want)
	}
}

func wantCount(t *testing.T, g api.Graph, labels []int, want int, wantE api.Errno) {
	t.Helper()
	if n, e := Count(g, labels); n != want || e != wantE {
		t.Fatalf("Count of %v of %v: %v, %v, want %v, %v", labels, g, n, e, want, wantE)
	}
}

// parts are the labels of layer 3.
func parts(t *testing.T, g api.Graph) []int {
	t.Helper()
	l, e := graph.Parts(g)
	if e != api.OK {
		t.Fatal(e)
	}
	return l
}

// overlap says whether two lists share memory, their spare room too.
func overlap[A, B any](a []A, b []B) bool {
	if cap(a) == 0 || cap(b) == 0 {
		return false
	}
	var x A
	var y B
	from, to := uintptr(unsafe.Pointer(unsafe.SliceData(a))), uintptr(unsafe.Pointer(unsafe.SliceData(b)))
	return from < to+uintptr(cap(b))*unsafe.Sizeof(y) && to < from+uintptr(cap(a))*unsafe.Sizeof(x)
}
