package local

import (
	"cmp"
	"math"
	"slices"
	"testing"
	"unsafe"

	"flyover/api"
)

// plainPairs is a second reading of chapter 8's words: which two vertices are neighbours, the lesser one first.
func plainPairs(g api.Graph) []api.Pair {
	beside := make([]bool, g.N*g.N)
	for _, a := range g.Arcs {
		beside[min(a.From, a.To)*g.N+max(a.From, a.To)] = true
	}
	var l []api.Pair
	for at, is := range beside {
		if p := (api.Pair{A: at / g.N, B: at % g.N}); is && p.A != p.B {
			l = append(l, p)
		}
	}
	return l
}

// isRight is a second reading of DOC.md: no label is left out, and their least vertices rise.
func isRight(g api.Graph, labels []int) bool {
	if len(labels) != g.N || slices.Min(labels) != 0 || slices.Max(labels) >= len(labels) {
		return false
	}
	least := -1
	for label := range slices.Max(labels) + 1 {
		at := slices.Index(labels, label)
		if at < 0 || at < least {
			return false
		}
		least = at
	}
	return true
}

// plainTidy is a second reading of DOC.md: from the least vertex on, a label that was not seen ahead is the next one.
func plainTidy(labels []int) []int {
	var seen, tidy []int
	for _, label := range labels {
		if !slices.Contains(seen, label) {
			seen = append(seen, label)
		}
		tidy = append(tidy, slices.Index(seen, label))
	}
	return tidy
}

func plainSizes(labels []int) []int {
	l := make([]int, slices.Max(labels)+1)
	for _, label := range labels {
		l[label]++
	}
	return l
}

// plainGain is a second reading of the chapter: the pairs are gone through for each vertex and label anew.
func plainGain(all []api.Pair, labels []int, v, l int) int {
	with, within := 0, 0
	for _, p := range all {
		for _, ends := range [][2]int{{p.A, p.B}, {p.B, p.A}} {
			if ends[0] == v && labels[ends[1]] == l {
				with++
			}
			if ends[0] == v && labels[ends[1]] == labels[v] {
				within++
			}
		}
	}
	return with - within
}

// plainMove is a vertex, a label, and what is gained.
type plainMove struct{ v, l, gain int }

// openMoves is a second reading of the chapter: all moves that are open, in the order of the pairs.
func openMoves(all []api.Pair, labels []int, bound int) []plainMove {
	var open []plainMove
	sizes, gains := plainSizes(labels), map[[2]int]int{}
	for _, p := range all {
		for _, ends := range [][2]int{{p.A, p.B}, {p.B, p.A}} {
			gains[[2]int{ends[0], labels[ends[1]]}]++
		}
	}
	for _, p := range all {
		for _, ends := range [][2]int{{p.A, p.B}, {p.B, p.A}} {
			v, l := ends[0], labels[ends[1]]
			gain := gains[[2]int{v, l}] - gains[[2]int{v, labels[v]}]
			if l != labels[v] && gain > 0 && sizes[l] < bound {
				open = append(open, plainMove{v, l, gain})
			}
		}
	}
	return open
}

func plainNext(all []api.Pair, labels []int, bound int) (plainMove, bool) {
	open := openMoves(all, labels, bound)
	if len(open) == 0 {
		return plainMove{}, false
	}
	return slices.MinFunc(open, func(m, n plainMove) int { return cmp.Or(n.gain-m.gain, m.v-n.v, m.l-n.l) }), true
}

// plainImprove is a second reading of the chapter, move by move, tidied each time.
func plainImprove(g api.Graph, labels []int, bound, most int) ([]int, int) {
	all, labels := plainPairs(g), slices.Clone(labels)
	for moves := range most {
		m, some := plainNext(all, labels, bound)
		if !some {
			return labels, moves
		}
		labels[m.v] = m.l
		labels = plainTidy(labels)
	}
	return labels, most
}

// between is how many pairs have ends with unlike labels.
func between(all []api.Pair, labels []int) int {
	many := 0
	for _, p := range all {
		if labels[p.A] != labels[p.B] {
			many++
		}
	}
	return many
}

// arcs takes for each arc where it begins and where it ends.
func arcs(n int, ends ...int) api.Graph {
	g := api.Graph{N: n}
	for i := 0; i < len(ends); i += 2 {
		g.Arcs = append(g.Arcs, api.Arc{From: ends[i], To: ends[i+1]})
	}
	return g
}

// way is a row of vertices 0 - 1 - 2 and so on.
func way(n int) api.Graph {
	g := api.Graph{N: n}
	for v := 1; v < n; v++ {
		g.Arcs = append(g.Arcs, api.Arc{From: v, To: v - 1})
	}
	return g
}

// star has arcs from the last vertex to all others, the greater ones first.
func star(n int) api.Graph {
	g := api.Graph{N: n}
	for v := n - 2; v >= 0; v-- {
		g.Arcs = append(g.Arcs, api.Arc{From: n - 1, To: v})
	}
	return g
}

// town is a square of streets.
func town(side int) api.Graph {
	g := api.Graph{N: side * side}
	for v := range g.N {
		if (v+1)%side != 0 {
			g.Arcs = append(g.Arcs, api.Arc{From: v + 1, To: v}, api.Arc{From: v, To: v + 1})
		}
		if v+side < g.N {
			g.Arcs = append(g.Arcs, api.Arc{From: v, To: v + side})
		}
	}
	return g
}

// crowd has arcs between all vertices, as far as a graph may have arcs.
func crowd(n int) api.Graph {
	g := api.Graph{N: n}
	for a := range n {
		for b := range a {
			if len(g.Arcs) < api.MaxArcs {
				g.Arcs = append(g.Arcs, api.Arc{From: a, To: b})
			}
		}
	}
	return g
}

// tangle has several arcs between the same two in both directions, arcs from a vertex to itself, weights that say otherwise, parts, and vertices without a neighbour.
func tangle() api.Graph {
	g := arcs(11, 7, 3, 3, 7, 7, 3, 3, 3, 3, 9, 0, 3, 9, 0, 2, 9, 7, 1, 1, 2, 1, 7, 8, 4, 6, 6, 8, 8, 10, 2, 5, 10, 5, 1)
	for id := range g.Arcs {
		g.Arcs[id].Weight = math.MaxUint32 - uint32(id%3)
	}
	return g
}

// noise answers a function that draws numbers below a bound, the same ones each time.
func noise() func(bound int) int {
	state := uint32(1)
	return func(bound int) int {
		state = state*1664525 + 1013904223
		return int(state>>8) % bound
	}
}

func drawn(draw func(int) int, n, many int) api.Graph {
	g := api.Graph{N: n}
	for range many {
		g.Arcs = append(g.Arcs, api.Arc{From: draw(n), To: draw(n), Weight: uint32(draw(1 << 20))})
	}
	return g
}

// drawnLabels are right ones, of at most so many labels.
func drawnLabels(draw func(int) int, n, most int) []int {
	l := make([]int, n)
	for v := range l {
		l[v] = draw(most)
	}
	return plainTidy(l)
}

// allLabels goes through all right labels of n vertices.
func allLabels(n int, do func(labels []int)) {
	var longer func(labels []int, next int)
	longer = func(labels []int, next int) {
		if len(labels) == n {
			do(labels)
			return
		}
		for label := range next + 1 {
			longer(append(labels[:len(labels):len(labels)], label), max(next, label+1))
		}
	}
	longer(nil, 0)
}

// allGraphs goes through all ways in which n vertices can be neighbours.
func allGraphs(n int, do func(g api.Graph)) {
	all := plainPairs(crowd(n))
	for set := range 1 << len(all) {
		g := api.Graph{N: n}
		for at, p := range slices.Backward(all) {
			if set>>at&1 == 1 {
				g.Arcs = append(g.Arcs, api.Arc{From: p.B, To: p.A})
			}
		}
		do(g)
	}
}

// manyLabelled goes through all small graphs with all right labels, and through some that are greater, with drawn ones.
func manyLabelled(do func(g api.Graph, labels []int)) {
	for n := 1; n < 5; n++ {
		allGraphs(n, func(g api.Graph) { allLabels(n, func(labels []int) { do(g, labels) }) })
	}
	draw := noise()
	allGraphs(5, func(g api.Graph) {
		do(g, count(5))
		do(g, make([]int, 5))
		do(g, drawnLabels(draw, 5, 3))
	})
	for _, g := range []api.Graph{tangle(), way(9), star(9), town(4), crowd(8), arcs(1, 0, 0), arcs(2, 1, 0, 0, 1)} {
		do(g, count(g.N))
		for most := 1; most <= g.N; most++ {
			do(g, drawnLabels(draw, g.N, most))
		}
	}
	for n := 2; n < 40; n++ {
		for range 6 {
			g := drawn(draw, n, draw(4*n+1))
			do(g, count(n))
			do(g, make([]int, n))
			do(g, drawnLabels(draw, n, 1+draw(n)))
		}
	}
}

// greatGraphs are as great as graphs may be, in vertices, arcs or both.
func greatGraphs() []api.Graph {
	draw := noise()
	return []api.Graph{
		way(api.MaxVertices), star(api.MaxVertices), town(32), crowd(128), {N: api.MaxVertices}, {N: 1, Arcs: make([]api.Arc, api.MaxArcs)},
		drawn(draw, api.MaxVertices, api.MaxVertices), drawn(draw, api.MaxVertices, api.MaxArcs), drawn(draw, 90, api.MaxArcs),
	}
}

// count is 0, 1, 2 and so on.
func count(n int) []int {
	l := make([]int, n)
	for i := range l {
		l[i] = i
	}
	return l
}

// wrongBounds are none that there may be.
func wrongBounds() []int {
	return []int{math.MinInt, -1, 0, api.MaxVertices + 1, api.MaxItems, math.MaxInt}
}

// wrongMosts are none that there may be.
func wrongMosts() []int { return []int{math.MinInt, -1, api.MaxItems + 1, math.MaxInt} }

func wantGain(t *testing.T, name string, got int, e api.Errno, want int) {
	t.Helper()
	if e != api.OK || got != want {
		t.Errorf("%s: %v, %v, want %v", name, got, e, want)
	}
}

func wantMove(t *testing.T, name string, v, l int, some bool, e api.Errno, wantV, wantL int) {
	t.Helper()
	if v != wantV || l != wantL || !some || e != api.OK {
		t.Errorf("%s: %d to %d, %v, %v, want %d to %d", name, v, l, some, e, wantV, wantL)
	}
}

// wantNoMove asks that nothing is told beside false (R5).
func wantNoMove(t *testing.T, name string, v, l int, some bool, e, want api.Errno) {
	t.Helper()
	if v != 0 || l != 0 || some || e != want {
		t.Errorf("%s: %d to %d, %v, %v, want none and %v", name, v, l, some, e, want)
	}
}

func wantBetter(t *testing.T, name string, better []int, moves int, e api.Errno, wantMoves int, want ...int) {
	t.Helper()
	if e != api.OK || moves != wantMoves || !slices.Equal(better, want) {
		t.Errorf("%s: %v by %d moves, %v, want %v by %d", name, better, moves, e, want, wantMoves)
	}
}

// wantNone asks for an error beside which nothing is told (R5).
func wantNone(t *testing.T, name string, better []int, moves int, e, want api.Errno) {
	t.Helper()
	if e != want || len(better) != 0 || moves != 0 {
		t.Errorf("%s: %v by %d moves, %v, want %v and nothing", name, better, moves, e, want)
	}
}

// overlap says whether two lists share memory, their spare room too.
func overlap[A, B any](a []A, b []B) bool {
	if cap(a) == 0 || cap(b) == 0 {
		return false
	}
	var x A
	var y B
	from, to := uintptr(unsafe.Pointer(unsafe.SliceData(a))), uintptr(unsafe.Pointer(unsafe.SliceData(b)))
	return from < to+uintptr(cap(b))*unsafe.Sizeof(y) && to < from+uintptr(cap(a))*unsafe.Sizeof(x)
}
