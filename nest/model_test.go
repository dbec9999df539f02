package nest

import (
	"math"
	"slices"
	"testing"
	"unsafe"

	"flyover/api"
	"flyover/local"
	"flyover/natcut"
	"flyover/split"
)

// isRight is a second reading of DOC.md: no label is left out, and their least vertices rise.
func isRight(g api.Graph, labels []int) bool {
	if len(labels) != g.N || slices.Min(labels) != 0 || slices.Max(labels) >= len(labels) {
		return false
	}
	least := -1
	for label := range slices.Max(labels) + 1 {
		at := slices.Index(labels, label)
		if at < 0 || at < least {
			return false
		}
		least = at
	}
	return true
}

// plainTidy is a second reading of DOC.md: from the least vertex on, a label that was not seen ahead is the next one.
func plainTidy(labels []int) []int {
	var seen, tidy []int
	for _, label := range labels {
		if !slices.Contains(seen, label) {
			seen = append(seen, label)
		}
		tidy = append(tidy, slices.Index(seen, label))
	}
	return tidy
}

func plainSizes(labels []int) []int {
	l := make([]int, slices.Max(labels)+1)
	for _, label := range labels {
		l[label]++
	}
	return l
}

// plainCheck is a second reading of the chapter, of graphs that are right: all two vertices are asked, one by one.
func plainCheck(g api.Graph, n api.Nest) (int, api.Errno) {
	if !slices.Contains([]int{1, 2, 3, 4, 5}, len(n.Bounds)) || len(n.Cells) != len(n.Bounds) {
		return 0, api.ErrLevel
	}
	for at, bound := range n.Bounds {
		switch {
		case bound < 1 || bound > api.MaxVertices || at > 0 && n.Bounds[at-1] >= bound:
			return at + 1, api.ErrRange
		case !isRight(g, n.Cells[at]):
			return at + 1, api.ErrLabel
		case slices.Max(plainSizes(n.Cells[at])) > bound:
			return at + 1, api.ErrBound
		}
		for v := range g.N {
			for u := range v {
				if at > 0 && n.Cells[at-1][u] == n.Cells[at-1][v] && n.Cells[at][u] != n.Cells[at][v] {
					return at + 1, api.ErrNest
				}
			}
		}
	}
	return 0, api.OK
}

// plainMembers goes through all vertices for one cell.
func plainMembers(n api.Nest, level, cell int) []int {
	var l []int
	for v, label := range n.Cells[level-1] {
		if label == cell {
			l = append(l, v)
		}
	}
	return l
}

// plainChildren takes of each vertex of the cell where it lies below.
func plainChildren(n api.Nest, level, cell int) []int {
	var l []int
	for _, v := range plainMembers(n, level, cell) {
		l = append(l, n.Cells[level-2][v])
	}
	slices.Sort(l)
	return slices.Compact(l)
}

// plainParent is the cell above that has this one among its children.
func plainParent(n api.Nest, level, cell int) int {
	above := 0
	for !slices.Contains(plainChildren(n, level+1, above), cell) {
		above++
	}
	return above
}

func plainApart(n api.Nest, u, v int) int {
	apart := 0
	for at, cells := range n.Cells {
		if cells[u] != cells[v] {
			apart = at + 1
		}
	}
	return apart
}

// steps makes a nest as the chapter tells it, step by step, by the calls of the layers below; the cuts and the moves one by one.
func steps(t *testing.T, g api.Graph, bounds, centres []int, moves int) api.Nest {
	t.Helper()
	var marks []api.Pair
	for _, centre := range centres {
		cut, e := natcut.Cut(g, centre, bounds[0])
		marks = append(marks, cut...)
		if e != api.OK {
			t.Fatal(e)
		}
	}
	must := func(l []int, e api.Errno) []int {
		t.Helper()
		if e != api.OK {
			t.Fatal(e)
		}
		return l
	}
	cells := must(natcut.Fragments(g, eachOnce(marks)))
	cells = must(split.CutUp(g, cells, bounds[0]))
	cells = must(split.Join(g, cells, bounds[0]))
	for range moves {
		v, l, some, e := local.Next(g, cells, bounds[0])
		if !some {
			must(cells, e)
			break
		}
		cells[v] = l
		cells = plainTidy(cells)
	}
	n := api.Nest{Bounds: bounds, Cells: [][]int{cells}}
	for _, bound := range bounds[1:] {
		cells = must(split.Join(g, cells, bound))
		n.Cells = append(n.Cells, cells)
	}
	return n
}

// eachOnce leaves out what stands there already.
func eachOnce(marks []api.Pair) []api.Pair {
	var l []api.Pair
	seen := map[api.Pair]bool{}
	for _, p := range marks {
		if !seen[p] {
			l = append(l, p)
		}
		seen[p] = true
	}
	return l
}

// arcs takes for each arc where it begins and where it ends.
func arcs(n int, ends ...int) api.Graph {
	g := api.Graph{N: n}
	for i := 0; i < len(ends); i += 2 {
		g.Arcs = append(g.Arcs, api.Arc{From: ends[i], To: ends[i+1]})
	}
	return g
}

// triangles are the two of the chapters' examples.
func triangles() api.Graph {
	return arcs(6, 0, 1, 1, 2, 2, 0, 3, 4, 4, 5, 5, 3, 2, 3, 3, 2)
}

// way is a row of vertices 0 - 1 - 2 and so on.
func way(n int) api.Graph {
	g := api.Graph{N: n}
	for v := 1; v < n; v++ {
		g.Arcs = append(g.Arcs, api.Arc{From: v, To: v - 1})
	}
	return g
}

// star has arcs from the last vertex to all others, the greater ones first.
func star(n int) api.Graph {
	g := api.Graph{N: n}
	for v := n - 2; v >= 0; v-- {
		g.Arcs = append(g.Arcs, api.Arc{From: n - 1, To: v})
	}
	return g
}

// towns are squares of streets; a single bridge leads from each to the next one.
func towns(many, side int) api.Graph {
	size := side * side
	g := api.Graph{N: many * size}
	for v := range g.N {
		if (v+1)%side != 0 {
			g.Arcs = append(g.Arcs, api.Arc{From: v, To: v + 1})
		}
		if v%size+side < size {
			g.Arcs = append(g.Arcs, api.Arc{From: v + side, To: v})
		}
		if v >= size && v%size == 0 {
			g.Arcs = append(g.Arcs, api.Arc{From: v, To: v - 1})
		}
	}
	return g
}

// crowd has arcs between all vertices, as far as a graph may have arcs.
func crowd(n int) api.Graph {
	g := api.Graph{N: n}
	for a := range n {
		for b := range a {
			if len(g.Arcs) < api.MaxArcs {
				g.Arcs = append(g.Arcs, api.Arc{From: a, To: b})
			}
		}
	}
	return g
}

// tangle has several arcs between the same two in both directions, arcs from a vertex to itself, weights that say otherwise, parts, and vertices without a neighbour.
func tangle() api.Graph {
	g := arcs(11, 7, 3, 3, 7, 7, 3, 3, 3, 3, 9, 0, 3, 9, 0, 2, 9, 7, 1, 1, 2, 1, 7, 8, 4, 6, 6, 8, 8, 10, 2, 5, 10, 5, 1)
	for id := range g.Arcs {
		g.Arcs[id].Weight = math.MaxUint32 - uint32(id%3)
	}
	return g
}

// noise answers a function that draws numbers below a bound, the same ones each time.
func noise() func(bound int) int {
	state := uint32(1)
	return func(bound int) int {
		state = state*1664525 + 1013904223
		return int(state>>8) % bound
	}
}

func drawn(draw func(int) int, n, many int) api.Graph {
	g := api.Graph{N: n}
	for range many {
		g.Arcs = append(g.Arcs, api.Arc{From: draw(n), To: draw(n), Weight: uint32(draw(1 << 20))})
	}
	return g
}

// drawnList has so many numbers below a bound.
func drawnList(draw func(int) int, many, bound int) []int {
	var l []int
	for range many {
		l = append(l, draw(bound))
	}
	return l
}

// drawnBounds rise, and are none above the greatest but the last one.
func drawnBounds(draw func(int) int, greatest int) []int {
	var l []int
	for bound := 1 + draw(greatest); bound <= greatest && len(l) < api.MaxLevels; bound += 1 + draw(greatest) {
		l = append(l, bound)
	}
	if len(l) < api.MaxLevels && draw(3) == 0 {
		l = append(l, api.MaxVertices)
	}
	return l
}

// drawnNest is right for n vertices: the cells of a level are put together as they are drawn, neighbours or not.
func drawnNest(draw func(int) int, n, levels int) api.Nest {
	var made api.Nest
	cells, below := count(n), 0
	for range levels {
		many := 1 + draw(len(plainSizes(cells)))
		groups := drawnList(draw, len(plainSizes(cells)), many)
		var labels []int
		for _, cell := range cells {
			labels = append(labels, groups[cell])
		}
		cells = plainTidy(labels)
		below = max(below+1, slices.Max(plainSizes(cells)))
		made.Bounds, made.Cells = append(made.Bounds, below), append(made.Cells, cells)
	}
	return made
}

// allLabels goes through all right labels of n vertices.
func allLabels(n int) [][]int {
	var all [][]int
	var longer func(labels []int, next int)
	longer = func(labels []int, next int) {
		if len(labels) == n {
			all = append(all, labels)
			return
		}
		for label := range next + 1 {
			longer(append(labels[:len(labels):len(labels)], label), max(next, label+1))
		}
	}
	longer(nil, 0)
	return all
}

// allLists goes through all lists of n numbers from -1 to n.
func allLists(n int) [][]int {
	all := [][]int{nil}
	for range n {
		var longer [][]int
		for _, l := range all {
			for number := -1; number <= n; number++ {
				longer = append(longer, append(slices.Clone(l), number))
			}
		}
		all = longer
	}
	return all
}

// manyGraphs are small ones of many kinds.
func manyGraphs() []api.Graph {
	draw := noise()
	all := []api.Graph{triangles(), tangle(), way(9), star(9), towns(3, 3), towns(2, 4), crowd(8), arcs(1, 0, 0), arcs(2, 1, 0, 0, 1), {N: 4}}
	for n := 1; n < 30; n++ {
		all = append(all, drawn(draw, n, draw(n+1)), drawn(draw, n, draw(4*n+1)))
	}
	return all
}

// greatGraphs are as great as graphs may be, in vertices, arcs or both.
func greatGraphs() []api.Graph {
	draw := noise()
	return []api.Graph{
		way(api.MaxVertices), star(api.MaxVertices), towns(16, 8), crowd(128), {N: api.MaxVertices}, {N: 1, Arcs: make([]api.Arc, api.MaxArcs)},
		drawn(draw, api.MaxVertices, api.MaxVertices), drawn(draw, api.MaxVertices, api.MaxArcs), drawn(draw, 90, api.MaxArcs),
	}
}

// count is 0, 1, 2 and so on.
func count(n int) []int {
	l := make([]int, n)
	for i := range l {
		l[i] = i
	}
	return l
}

// nest takes bounds, and of each level the cells.
func nest(bounds []int, cells ...[]int) api.Nest { return api.Nest{Bounds: bounds, Cells: cells} }

// wrongNumbers are no vertex, level, cell or bound, nor a number of moves.
func wrongNumbers() []int { return []int{math.MinInt, -1, api.MaxItems + 1, math.MaxInt} }

func wantNumber(t *testing.T, name string, got int, e api.Errno, want int) {
	t.Helper()
	if e != api.OK || got != want {
		t.Errorf("%s: %v, %v, want %v", name, got, e, want)
	}
}

func wantList(t *testing.T, name string, got []int, e api.Errno, want ...int) {
	t.Helper()
	if e != api.OK || !slices.Equal(got, want) {
		t.Errorf("%s: %v, %v, want %v", name, got, e, want)
	}
}

func wantNest(t *testing.T, name string, got api.Nest, e api.Errno, want api.Nest) {
	t.Helper()
	if e != api.OK || !slices.Equal(got.Bounds, want.Bounds) || !slices.EqualFunc(got.Cells, want.Cells, slices.Equal) {
		t.Errorf("%s: %v, %v, want %v", name, got, e, want)
	}
}

func wantLevel(t *testing.T, name string, level int, e api.Errno, wantLevel int, want api.Errno) {
	t.Helper()
	if level != wantLevel || e != want {
		t.Errorf("%s: %d, %v, want %d, %v", name, level, e, wantLevel, want)
	}
}

// wantNoNumber, wantNoList and wantNoNest ask for an error beside which nothing is told (R5).
func wantNoNumber(t *testing.T, name string, got int, e, want api.Errno) {
	t.Helper()
	if got != 0 || e != want {
		t.Errorf("%s: %d, %v, want %v and nothing", name, got, e, want)
	}
}

func wantNoList(t *testing.T, name string, got []int, e, want api.Errno) {
	t.Helper()
	if len(got) != 0 || e != want {
		t.Errorf("%s: %v, %v, want %v and nothing", name, got, e, want)
	}
}

func wantNoNest(t *testing.T, name string, got api.Nest, e, want api.Errno) {
	t.Helper()
	if len(got.Bounds) != 0 || len(got.Cells) != 0 || e != want {
		t.Errorf("%s: %v, %v, want %v and nothing", name, got, e, want)
	}
}

// overlap says whether two lists share memory, their spare room too.
func overlap[A, B any](a []A, b []B) bool {
	if cap(a) == 0 || cap(b) == 0 {
		return false
	}
	var x A
	var y B
	from, to := uintptr(unsafe.Pointer(unsafe.SliceData(a))), uintptr(unsafe.Pointer(unsafe.SliceData(b)))
	return from < to+uintptr(cap(b))*unsafe.Sizeof(y) && to < from+uintptr(cap(a))*unsafe.Sizeof(x)
}
