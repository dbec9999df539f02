package clique

import (
	"math"
	"math/bits"
	"slices"
	"testing"
	"unsafe"

	"flyover/api"
	"flyover/nest"
)

// plainWay is an arc whose weight may be any distance.
type plainWay struct {
	from, to int
	far      api.Dist
}

func plainAdd(a, b api.Dist) api.Dist {
	sum, carry := bits.Add64(uint64(a), uint64(b), 0)
	if carry > 0 {
		return api.Inf
	}
	return api.Dist(sum)
}

// plainFar goes over all ways again and again, till nothing lies nearer any more.
func plainFar(n int, ways []plainWay, s int) []api.Dist {
	far := slices.Repeat([]api.Dist{api.Inf}, n)
	far[s] = 0
	for changed := true; changed; {
		changed = false
		for _, w := range ways {
			if d := plainAdd(far[w.from], w.far); d < far[w.to] {
				far[w.to], changed = d, true
			}
		}
	}
	return far
}

func plainMatrix(n int, ways []plainWay, boundary []int) []api.Dist {
	var l []api.Dist
	for _, s := range boundary {
		far := plainFar(n, ways, s)
		for _, end := range boundary {
			l = append(l, far[end])
		}
	}
	return l
}

// plainWhole is a second reading of the right matrix: over the arcs both of whose ends are in the cell, with g's weights.
func plainWhole(g api.Graph, n api.Nest, level, cell int) []api.Dist {
	return plainMatrix(g.N, plainArcs(g, plainInner(g, n, level, cell)), plainBoundary(g, n, level, cell))
}

// plainUp is a second reading of 13.3: each member is an arc, and so is each arc between the children; the weights are g's.
func plainUp(g api.Graph, n api.Nest, level, cell int, children []api.Matrix) []api.Dist {
	return plainMatrix(g.N, plainUpWays(g, n, level, cell, children), plainBoundary(g, n, level, cell))
}

func plainUpWays(g api.Graph, n api.Nest, level, cell int, children []api.Matrix) []plainWay {
	ways := plainArcs(g, plainBetween(g, n, level, cell))
	for i, child := range plainChildren(n, level, cell) {
		boundary := plainBoundary(g, n, level-1, child)
		for row, from := range boundary {
			for column, to := range boundary {
				ways = append(ways, plainWay{from, to, children[i].D[row*len(boundary)+column]})
			}
		}
	}
	return ways
}

func plainArcs(g api.Graph, ids []int) []plainWay {
	var ways []plainWay
	for _, id := range ids {
		ways = append(ways, plainWay{g.Arcs[id].From, g.Arcs[id].To, api.Dist(g.Arcs[id].Weight)})
	}
	return ways
}

func plainMany(n api.Nest, level int) int { return slices.Max(n.Cells[level-1]) + 1 }

func plainBoundary(g api.Graph, n api.Nest, level, cell int) []int {
	var l []int
	in := n.Cells[level-1]
	for v := range g.N {
		outside := func(a api.Arc) bool {
			return a.From == v && in[a.To] != cell || a.To == v && in[a.From] != cell
		}
		if in[v] == cell && slices.ContainsFunc(g.Arcs, outside) {
			l = append(l, v)
		}
	}
	return l
}

func plainInner(g api.Graph, n api.Nest, level, cell int) []int {
	var l []int
	for id, a := range g.Arcs {
		if n.Cells[level-1][a.From] == cell && n.Cells[level-1][a.To] == cell {
			l = append(l, id)
		}
	}
	return l
}

func plainBetween(g api.Graph, n api.Nest, level, cell int) []int {
	var l []int
	for _, id := range plainInner(g, n, level, cell) {
		if a := g.Arcs[id]; n.Cells[level-2][a.From] != n.Cells[level-2][a.To] {
			l = append(l, id)
		}
	}
	return l
}

func plainChildren(n api.Nest, level, cell int) []int {
	var l []int
	for child := range plainMany(n, level-1) {
		if n.Cells[level-1][slices.Index(n.Cells[level-2], child)] == cell {
			l = append(l, child)
		}
	}
	return l
}

func plainWeights(g api.Graph, ids []int) []uint32 {
	var l []uint32
	for _, id := range ids {
		l = append(l, g.Arcs[id].Weight)
	}
	return l
}

// plainLevels are the right matrices of all cells, with epochs from 0 up to one that is told.
func plainLevels(g api.Graph, n api.Nest, epoch int) [][]api.Matrix {
	all := make([][]api.Matrix, len(n.Cells))
	for at := range all {
		for cell := range plainMany(n, at+1) {
			all[at] = append(all[at], api.Matrix{Level: at + 1, Cell: cell, Epoch: (cell + at) % (epoch + 1), D: plainWhole(g, n, at+1, cell)})
		}
	}
	return all
}

// chosen are the matrices of these cells.
func chosen(l []api.Matrix, cells []int) []api.Matrix {
	var some []api.Matrix
	for _, cell := range cells {
		some = append(some, l[cell])
	}
	return some
}

// plainTidy is a second reading of DOC.md: from the least vertex on, a label that was not seen ahead is the next one.
func plainTidy(labels []int) []int {
	var seen, tidy []int
	for _, label := range labels {
		if !slices.Contains(seen, label) {
			seen = append(seen, label)
		}
		tidy = append(tidy, slices.Index(seen, label))
	}
	return tidy
}

// three is the graph of DOC.md's examples, with its cells.
func three() (api.Graph, api.Nest) {
	g := api.Graph{N: 3, Arcs: []api.Arc{{From: 0, To: 1, Weight: 5}, {From: 1, To: 2, Weight: 7}, {From: 0, To: 2, Weight: 20}}}
	return g, cells([]int{2}, []int{0, 0, 1})
}

// rounds has three levels, arcs in both directions, two between the same vertices, and one from a vertex to itself.
func rounds() (api.Graph, api.Nest) {
	g := api.Graph{N: 6, Arcs: []api.Arc{
		{From: 0, To: 1, Weight: 2}, {From: 1, To: 0, Weight: 9}, {From: 1, To: 2, Weight: 1}, {From: 2, To: 3, Weight: 4}, {From: 3, To: 0, Weight: 3}, {From: 3, To: 4, Weight: 1},
		{From: 4, To: 1, Weight: 1}, {From: 4, To: 5, Weight: 6}, {From: 5, To: 0, Weight: 8}, {From: 0, To: 0, Weight: 7}, {From: 1, To: 2, Weight: 0},
	}}
	return g, cells([]int{2, 4, 5}, []int{0, 0, 1, 1, 2, 3}, []int{0, 0, 0, 0, 1, 2}, []int{0, 0, 0, 0, 0, 1})
}

// noise answers a function that draws numbers below a bound, the same ones each time.
func noise() func(bound int) int {
	state := uint32(1)
	return func(bound int) int {
		state = state*1664525 + 1013904223
		return int(state>>8) % bound
	}
}

// drawn has weights from 0 to most.
func drawn(draw func(int) int, n, many, most int) api.Graph {
	g := api.Graph{N: n}
	for range many {
		g.Arcs = append(g.Arcs, api.Arc{From: draw(n), To: draw(n), Weight: uint32(draw(most + 1))})
	}
	return g
}

// reweighed is g with other weights, some of them as great as weights may be.
func reweighed(draw func(int) int, g api.Graph) api.Graph {
	h := api.Graph{N: g.N, Arcs: slices.Clone(g.Arcs)}
	for id := range h.Arcs {
		h.Arcs[id].Weight = []uint32{0, math.MaxUint32, uint32(draw(9)), uint32(draw(1 << 20))}[draw(4)]
	}
	return h
}

// drawnDist is often one of those at which something might turn over.
func drawnDist(draw func(int) int) api.Dist {
	return []api.Dist{0, 1, api.Inf, api.Inf - 1, api.Inf - 6, 1 << 63, api.Dist(draw(9)), api.Dist(draw(1 << 20)), api.Dist(draw(1<<20)) << 40}[draw(9)]
}

// drawnNest is right for n vertices: the cells of a level are put together as they are drawn, neighbours or not.
func drawnNest(draw func(int) int, n, levels int) api.Nest {
	labels := count(n)
	var x api.Nest
	bound := 0
	for range levels {
		many := slices.Max(labels) + 1
		groups, above := make([]int, many), make([]int, n)
		kinds := 1 + draw(many)
		for i := range groups {
			groups[i] = draw(kinds)
		}
		for v, label := range labels {
			above[v] = groups[label]
		}
		labels = plainTidy(above)
		bound = max(bound+1, greatestSize(labels))
		x.Bounds, x.Cells = append(x.Bounds, bound), append(x.Cells, labels)
	}
	return x
}

func greatestSize(labels []int) int {
	l := make([]int, len(labels))
	for _, label := range labels {
		l[label]++
	}
	return slices.Max(l)
}

// allNests are all right ones of one and of two levels of up to three vertices.
func allNests(n int) []api.Nest {
	all := map[int][][]int{1: {{0}}, 2: {{0, 0}, {0, 1}}, 3: {{0, 0, 0}, {0, 0, 1}, {0, 1, 0}, {0, 1, 1}, {0, 1, 2}}}[n]
	var nests []api.Nest
	for _, low := range all {
		nests = append(nests, cells([]int{n}, low))
		for _, high := range all {
			x := cells([]int{n, n + 1}, low, high)
			if _, e := nest.Check(api.Graph{N: n}, x); e == api.OK {
				nests = append(nests, x)
			}
		}
	}
	return nests
}

// allGraphs are of n vertices, with each arc that may be, or without it, and drawn weights.
func allGraphs(draw func(int) int, n int) []api.Graph {
	var all []api.Graph
	for set := range 1 << (n * n) {
		g := api.Graph{N: n}
		for at := range n * n {
			if set>>at&1 == 1 {
				g.Arcs = append(g.Arcs, api.Arc{From: at / n, To: at % n, Weight: uint32(draw(6))})
			}
		}
		all = append(all, g)
	}
	return all
}

// cells takes bounds, and of each level the cells.
func cells(bounds []int, cells ...[]int) api.Nest { return api.Nest{Bounds: bounds, Cells: cells} }

// count is 0, 1, 2 and so on.
func count(n int) []int {
	l := make([]int, n)
	for i := range l {
		l[i] = i
	}
	return l
}

// wrongNumbers are no level, cell or id.
func wrongNumbers() []int {
	return []int{math.MinInt, -1, api.MaxArcs, api.MaxItems + 1, math.MaxInt}
}

// wrongEpochs are none.
func wrongEpochs() []int { return []int{math.MinInt, -1, api.MaxTicks + 1, math.MaxInt} }

func wantOK(t *testing.T, name string, all ...api.Errno) {
	t.Helper()
	for _, e := range all {
		if e != api.OK {
			t.Fatal(name, e)
		}
	}
}

// wantMatrix asks for a matrix that Check takes, too.
func wantMatrix(t *testing.T, name string, g api.Graph, n api.Nest, got api.Matrix, e api.Errno, level, cell, epoch int, want ...api.Dist) {
	t.Helper()
	if e != api.OK || got.Level != level || got.Cell != cell || got.Epoch != epoch || !slices.Equal(got.D, want) {
		t.Errorf("%s: %v, %v, want %d, %d, %d, %v", name, got, e, level, cell, epoch, want)
	}
	if e := Check(g, n, got); e != api.OK {
		t.Errorf("%s: Check: %v of %v", name, e, got)
	}
}

// wantNone asks for an error beside which nothing is told (R5).
func wantNone(t *testing.T, name string, got api.Matrix, e, want api.Errno) {
	t.Helper()
	if e != want || got.Level != 0 || got.Cell != 0 || got.Epoch != 0 || len(got.D) != 0 {
		t.Errorf("%s: %v, %v, want %v and nothing", name, got, e, want)
	}
}

func wantErrno(t *testing.T, name string, got, want api.Errno) {
	t.Helper()
	if got != want {
		t.Errorf("%s: %v, want %v", name, got, want)
	}
}

func wantNoWeights(t *testing.T, name string, got []uint32, e, want api.Errno) {
	t.Helper()
	if e != want || len(got) != 0 {
		t.Errorf("%s: %v, %v, want %v and nothing", name, got, e, want)
	}
}

// overlap says whether two lists share memory, their spare room too.
func overlap[A, B any](a []A, b []B) bool {
	if cap(a) == 0 || cap(b) == 0 {
		return false
	}
	var x A
	var y B
	from, to := uintptr(unsafe.Pointer(unsafe.SliceData(a))), uintptr(unsafe.Pointer(unsafe.SliceData(b)))
	return from < to+uintptr(cap(b))*unsafe.Sizeof(y) && to < from+uintptr(cap(a))*unsafe.Sizeof(x)
}
