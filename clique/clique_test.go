package clique

import (
	"math"
	"slices"
	"testing"

	"flyover/api"
	"flyover/nest"
	"flyover/plain"
)

// Promises 13.1, 13.2, 13.4: the chapter's example.
func TestExample(t *testing.T) {
	g, n := plain.Three()
	m, e := Leaf(g, n, 0, 0, []uint32{5})
	wantMatrix(t, "Leaf", g, n, m, e, 1, 0, 0, 0, 5, api.Inf, 0)
	m, e = Leaf(g, n, 0, 0, nil)
	wantNone(t, "Leaf of no weights", m, e, api.ErrShape)
	m, e = Whole(g, n, 1, 0, 3)
	wantMatrix(t, "Whole", g, n, m, e, 1, 0, 3, 0, 5, api.Inf, 0)
	m, e = Leaf(g, n, 1, 9, nil)
	wantMatrix(t, "Leaf of 1", g, n, m, e, 1, 1, 9, 0)
	l, e := Weights(g, []int{2, 0, 2})
	if e != api.OK || !slices.Equal(l, []uint32{20, 5, 20}) {
		t.Error("Weights", l, e)
	}
}

// Promises 13.2 to 13.4: what is told by hand of three levels.
func TestLevels(t *testing.T) {
	const no = api.Inf
	g, n := plain.Rounds()
	below := map[[2]int]api.Matrix{}
	for _, x := range []struct {
		level, cell int
		weights     []uint32
		children    []int
		want        []api.Dist
	}{
		{1, 0, []uint32{2, 9, 7}, nil, []api.Dist{0, 2, 9, 0}}, {1, 1, []uint32{4}, nil, []api.Dist{0, 4, no, 0}}, {1, 2, nil, nil, []api.Dist{0}}, {1, 3, nil, nil, []api.Dist{0}},
		{2, 0, []uint32{1, 3, 0}, []int{0, 1}, []api.Dist{0, 2, 6, 7, 0, 4, 3, 5, 0}}, {2, 1, nil, []int{2}, []api.Dist{0}}, {2, 2, nil, []int{3}, []api.Dist{0}},
		{3, 0, []uint32{1, 1}, []int{0, 1}, []api.Dist{0, 7, 8, 0}}, {3, 1, nil, []int{2}, []api.Dist{0}},
	} {
		m, e := Whole(g, n, x.level, x.cell, 4)
		wantMatrix(t, "Whole", g, n, m, e, x.level, x.cell, 4, x.want...)
		var children []api.Matrix
		for _, child := range x.children {
			children = append(children, below[[2]int{x.level - 1, child}])
		}
		if x.level == 1 {
			m, e = Leaf(g, n, x.cell, 4, x.weights)
			wantMatrix(t, "Leaf", g, n, m, e, x.level, x.cell, 4, x.want...)
		} else {
			m, e = Up(g, n, x.level, x.cell, 4, x.weights, children)
			wantMatrix(t, "Up", g, n, m, e, x.level, x.cell, 4, x.want...)
		}
		below[[2]int{x.level, x.cell}] = m
	}
}

// wantPlain holds all calls of all cells against the plain readings, with g's weights and with h's, which g does not have.
func wantPlain(t *testing.T, g, h api.Graph, n api.Nest, epoch int) {
	t.Helper()
	right := plainLevels(h, n, epoch)
	for at := range n.Cells {
		for cell := range plain.Many(n, at+1) {
			level := at + 1
			m, e := Whole(g, n, level, cell, epoch)
			wantMatrix(t, "Whole", g, n, m, e, level, cell, epoch, plain.Whole(g, n, level, cell)...)
			m, e = Whole(h, n, level, cell, epoch)
			wantMatrix(t, "Whole", h, n, m, e, level, cell, epoch, right[at][cell].D...)
			if level == 1 {
				m, e = Leaf(g, n, cell, epoch, plain.Weights(h, plain.Inner(g, n, 1, cell)))
				wantMatrix(t, "Leaf", g, n, m, e, 1, cell, epoch, right[at][cell].D...)
				continue
			}
			children := plain.Chosen(right[at-1], plain.Children(n, level, cell))
			m, e = Up(g, n, level, cell, epoch, plain.Weights(h, plain.Between(g, n, level, cell)), children)
			wantMatrix(t, "Up", g, n, m, e, level, cell, epoch, right[at][cell].D...)
		}
	}
	if t.Failed() {
		t.Fatal(g, h, n)
	}
}

// Promises 13.1 to 13.5: all graphs of up to three vertices with all nests of up to two levels.
func TestAll(t *testing.T) {
	draw := plain.Noise()
	for n := 1; n < 4; n++ {
		for _, x := range plain.Nests(n) {
			for _, g := range plain.Graphs(draw, n) {
				wantPlain(t, g, plain.Reweighed(draw, g), x, draw(5))
			}
		}
	}
}

// Promises 13.1 to 13.5, W5: of nests that were drawn and of nests that were made.
func TestAgainstPlain(t *testing.T) {
	draw := plain.Noise()
	for n := 1; n < 26; n++ {
		for _, most := range []int{0, 3, 1 << 20} {
			g := plain.Graph(draw, n, draw(4*n+1), most)
			h := plain.Reweighed(draw, g)
			wantPlain(t, g, h, plain.Nest(draw, n, 1+draw(api.MaxLevels)), draw(1000))
			made, e := nest.Make(g, []int{1 + n/4, 2 + n/2, n + 2}, []int{draw(n), draw(n)}, draw(5))
			wantOK(t, "Make", e)
			wantPlain(t, g, h, made, api.MaxTicks)
		}
	}
}

// Promise 13.3: matrices whose distances are not right, too: of no zero on the diagonal, of detours within, of lengths up to Inf.
func TestUpOfAnyMatrices(t *testing.T) {
	draw := plain.Noise()
	for n := 2; n < 22; n++ {
		for range 100 {
			g, x := plain.Graph(draw, n, draw(3*n+1), 1<<20), plain.Nest(draw, n, 2+draw(3))
			h := plain.Reweighed(draw, g)
			level := 2 + draw(len(x.Cells)-1)
			cell := draw(plain.Many(x, level))
			var children []api.Matrix
			for _, child := range plain.Children(x, level, cell) {
				b := len(plain.Boundary(g, x, level-1, child))
				m := api.Matrix{Level: level - 1, Cell: child, Epoch: draw(8), D: make([]api.Dist, b*b)}
				for i := range m.D {
					m.D[i] = plain.Dist(draw)
				}
				children = append(children, m)
			}
			m, e := Up(g, x, level, cell, 7, plain.Weights(h, plain.Between(g, x, level, cell)), children)
			wantMatrix(t, "Up", g, x, m, e, level, cell, 7, plain.Up(h, x, level, cell, children)...)
			if t.Failed() {
				t.Fatal(g, x, children)
			}
		}
	}
}

// Promise 13.3: lengths just below Inf, at it and beyond; a member of a row is that of its own column, and the diagonal is 0 whatever the children say.
func TestUpAtInf(t *testing.T) {
	g := api.Graph{N: 4, Arcs: []api.Arc{{From: 3, To: 0}, {From: 1, To: 2}, {From: 2, To: 3}}}
	n := plain.Cells([]int{2, 3}, []int{0, 0, 1, 2}, []int{0, 0, 0, 1})
	for _, x := range []struct {
		there, back api.Dist
		weight      uint32
		want        api.Dist
	}{
		{5, 9, 7, 12}, {api.Inf - 8, 9, 7, api.Inf - 1}, {api.Inf - 7, 9, 7, api.Inf}, {api.Inf - 6, 9, 7, api.Inf}, {api.Inf - 1, 0, 0, api.Inf - 1}, {api.Inf, 1, 0, api.Inf},
		{api.Inf - math.MaxUint32 - 1, 3, math.MaxUint32, api.Inf - 1}, {api.Inf - math.MaxUint32, 3, math.MaxUint32, api.Inf}, {0, api.Inf, math.MaxUint32, math.MaxUint32},
	} {
		low := api.Matrix{Level: 1, Cell: 0, D: []api.Dist{4, x.there, x.back, api.Inf}}
		m, e := Up(g, n, 2, 0, 0, []uint32{x.weight}, []api.Matrix{low, {Level: 1, Cell: 1, D: []api.Dist{api.Inf}}})
		wantMatrix(t, "Up", g, n, m, e, 2, 0, 0, 0, x.want, api.Inf, 0)
	}
}

// climb makes all matrices of a nest level by level, by the calls alone.
func climb(t *testing.T, g api.Graph, n api.Nest) [][]api.Matrix {
	t.Helper()
	all := make([][]api.Matrix, len(n.Cells))
	for at := range all {
		for cell := range plain.Many(n, at+1) {
			var m api.Matrix
			var e api.Errno
			if at == 0 {
				m, e = Leaf(g, n, cell, 0, plain.Weights(g, plain.Inner(g, n, 1, cell)))
			} else {
				m, e = Up(g, n, at+1, cell, at, plain.Weights(g, plain.Between(g, n, at+1, cell)), plain.Chosen(all[at-1], plain.Children(n, at+1, cell)))
			}
			wantOK(t, "a matrix", e)
			all[at] = append(all[at], m)
		}
	}
	return all
}

// Promise 13.5: what follows, from the answers alone.
func TestFollows(t *testing.T) {
	draw := plain.Noise()
	for n := 1; n < 40; n++ {
		for range 3 {
			g, x := plain.Reweighed(draw, plain.Graph(draw, n, draw(4*n+1), 0)), plain.Nest(draw, n, 1+draw(api.MaxLevels))
			for at, level := range climb(t, g, x) {
				for cell, m := range level {
					whole, e := Whole(g, x, at+1, cell, at)
					wantMatrix(t, "Whole and what is made of children", g, x, m, e, at+1, cell, at, whole.D...)
					wantOver(t, m, len(plain.Boundary(g, x, at+1, cell)))
				}
			}
			if t.Failed() {
				t.Fatal(g, x)
			}
		}
	}
}

// wantOver asks that the diagonal is 0, and that no member is greater than two others over a vertex between.
func wantOver(t *testing.T, m api.Matrix, b int) {
	t.Helper()
	for from := range b {
		for to := range b {
			for over := range b {
				if m.D[from*b+to] > plain.Add(m.D[from*b+over], m.D[over*b+to]) {
					t.Error("a shorter walk over", over, m)
				}
			}
		}
		if m.D[from*b+from] != 0 {
			t.Error("not 0 on the diagonal", m)
		}
	}
}

// great is as great as a graph may be, with a cell of nearly all vertices, each of them on its boundary, at each of two levels.
func great() (api.Graph, api.Nest) {
	const most = api.MaxVertices - 2
	draw := plain.Noise()
	g, low, high := api.Graph{N: api.MaxVertices}, make([]int, api.MaxVertices), make([]int, api.MaxVertices)
	low[most], low[most+1], high[most+1] = 1, 2, 1
	for v := range most {
		g.Arcs = append(g.Arcs, api.Arc{From: v, To: most, Weight: uint32(draw(500))}, api.Arc{From: most + 1, To: v})
	}
	for v := range 100 {
		g.Arcs = append(g.Arcs, api.Arc{From: most, To: v, Weight: math.MaxUint32})
	}
	for len(g.Arcs) < api.MaxArcs {
		g.Arcs = append(g.Arcs, api.Arc{From: draw(most), To: draw(most), Weight: uint32(draw(1000))})
	}
	return g, plain.Cells([]int{most, most + 1}, low, high)
}

// Promises 13.1 to 13.4, P1: matrices of more members than api.MaxItems, as great as they may be.
func TestGreatest(t *testing.T) {
	g, n := great()
	all := plain.Boundary(g, n, 2, 0)
	b := len(all)
	if b*b <= api.MaxItems {
		t.Fatal("the boundary is too small:", b)
	}
	low, e := Leaf(g, n, 0, 1, plain.Weights(g, plain.Inner(g, n, 1, 0)))
	other, e2 := Leaf(g, n, 1, 0, nil)
	high, e3 := Up(g, n, 2, 0, 1, plain.Weights(g, plain.Between(g, n, 2, 0)), []api.Matrix{low, other})
	whole, e4 := Whole(g, n, 2, 0, 1)
	wantOK(t, "the greatest matrices", e, e2, e3, e4, Check(g, n, low), Check(g, n, high), Check(g, n, whole))
	if !slices.Equal(high.D, whole.D) {
		t.Error("Up is not Whole")
	}
	lowWays, highWays := plain.Ways(g, plain.Inner(g, n, 1, 0)), plain.Ways(g, plain.Inner(g, n, 2, 0))
	for _, row := range []int{0, 99, 512, b - 1} {
		farLow, farHigh := plain.Far(g.N, lowWays, all[row]), plain.Far(g.N, highWays, all[row])
		for column, v := range all {
			if low.D[row*b+column] != farLow[v] || whole.D[row*b+column] != farHigh[v] {
				t.Fatal("from", all[row], "to", v)
			}
		}
	}
	high.D = high.D[1:]
	wantErrno(t, "one member less", Check(g, n, high), api.ErrMatrix)
}

// Promises 13.2 to 13.4, P1: as many cells as there may be, and the greatest graphs of other shapes.
func TestGreatestOfManyCells(t *testing.T) {
	draw := plain.Noise()
	for _, g := range []api.Graph{plain.Graph(draw, api.MaxVertices, api.MaxArcs, 1<<20), {N: api.MaxVertices}, {N: api.MaxVertices, Arcs: make([]api.Arc, api.MaxArcs)}, {N: 1, Arcs: make([]api.Arc, api.MaxArcs)}} {
		high := make([]int, g.N)
		for v := range high {
			high[v] = v * 3 / g.N
		}
		n := plain.Cells([]int{1, 400, 1024}, plain.Count(g.N), plain.Tidy(high), make([]int, g.N))
		var leaves []api.Matrix
		for v := range g.N {
			m, e := Leaf(g, n, v, 0, plain.Weights(g, plain.Inner(g, n, 1, v)))
			wantMatrix(t, "Leaf", g, n, m, e, 1, v, 0, plain.Whole(g, n, 1, v)...)
			leaves = append(leaves, m)
		}
		var middle []api.Matrix
		for cell := range plain.Many(n, 2) {
			m, e := Up(g, n, 2, cell, 0, plain.Weights(g, plain.Between(g, n, 2, cell)), plain.Chosen(leaves, plain.Children(n, 2, cell)))
			wantMatrix(t, "Up", g, n, m, e, 2, cell, 0, plain.Whole(g, n, 2, cell)...)
			middle = append(middle, m)
		}
		m, e := Up(g, n, 3, 0, 0, plain.Weights(g, plain.Between(g, n, 3, 0)), middle)
		wantMatrix(t, "Up of all", g, n, m, e, 3, 0, 0)
	}
}

// Promise 13.1: matrices that may not be, whatever else is right about them.
func TestCheck(t *testing.T) {
	g, n := plain.Rounds()
	for at, level := range plainLevels(g, n, 3) {
		for _, m := range level {
			right := m
			wantErrno(t, "right", Check(g, n, m), api.OK)
			for i := range right.D {
				right.D[i] = api.Dist(i) + 77
			}
			wantErrno(t, "wrong distances", Check(g, n, right), api.OK)
			for _, epoch := range []int{0, 1, api.MaxTicks - 1, api.MaxTicks} {
				m.Epoch = epoch
				wantErrno(t, "an epoch", Check(g, n, m), api.OK)
			}
			for _, epoch := range plain.WrongEpochs() {
				m.Epoch = epoch
				wantErrno(t, "no epoch", Check(g, n, m), api.ErrMatrix)
			}
			m = right
			for _, m.Level = range append(plain.WrongNumbers(), 0, 4, 5, 6) {
				wantErrno(t, "no level", Check(g, n, m), api.ErrMatrix)
			}
			m = right
			for _, m.Cell = range append(plain.WrongNumbers(), plain.Many(n, at+1), g.N) {
				wantErrno(t, "no cell", Check(g, n, m), api.ErrMatrix)
			}
			m = right
			for _, many := range []int{0, 1, 2, 3, 4, 5, 8, 9, 10, 16, api.MaxItems, api.MaxItems + 1} {
				// Spare room is none of a list's members, even if it would make their number right.
				if m.D = make([]api.Dist, many, many+20); many != len(right.D) {
					wantErrno(t, "another number of members", Check(g, n, m), api.ErrMatrix)
				}
			}
		}
	}
}

// Promise 13.1, R3: a cell without a boundary has a matrix without members.
func TestNoBoundary(t *testing.T) {
	g := api.Graph{N: 3, Arcs: []api.Arc{{From: 0, To: 2, Weight: 1}, {From: 2, To: 0, Weight: 1}, {From: 1, To: 1}}}
	n := plain.Cells([]int{2, 3}, []int{0, 1, 0}, []int{0, 0, 0})
	for _, none := range [][]api.Dist{nil, {}} {
		children := []api.Matrix{{Level: 1, Cell: 0, D: none}, {Level: 1, Cell: 1, D: none}}
		for _, weights := range [][]uint32{nil, {}} {
			m, e := Up(g, n, 2, 0, 0, weights, children)
			wantMatrix(t, "Up", g, n, m, e, 2, 0, 0)
		}
		wantErrno(t, "Check", Check(g, n, children[1]), api.OK)
	}
	m, e := Leaf(g, n, 0, 5, []uint32{1, 1})
	wantMatrix(t, "Leaf", g, n, m, e, 1, 0, 5)
	m, e = Whole(g, n, 1, 1, 5)
	wantMatrix(t, "Whole", g, n, m, e, 1, 1, 5)
	for _, none := range [][]int{nil, {}} {
		l, e := Weights(g, none)
		wantNoWeights(t, "Weights", l, e, api.OK)
	}
}

// Promises 13.2 to 13.4, R1, R5: levels and cells that there are not, ahead of what else is wrong.
func TestWrongPlaces(t *testing.T) {
	g, n := plain.Rounds()
	for _, epoch := range append(plain.WrongEpochs(), 0) {
		for _, weights := range [][]uint32{nil, {1, 2}, make([]uint32, api.MaxItems+1)} {
			for _, level := range append(plain.WrongNumbers(), 0, 4, 5, 6) {
				for _, cell := range append(plain.WrongNumbers(), 0, 1) {
					wantRefusedPlace(t, g, n, level, cell, epoch, weights, api.ErrLevel)
				}
			}
			for at := range n.Cells {
				for _, cell := range append(plain.WrongNumbers(), plain.Many(n, at+1), g.N) {
					wantRefusedPlace(t, g, n, at+1, cell, epoch, weights, api.ErrCell)
				}
			}
			for cell := range plain.Many(n, 1) {
				m, e := Up(g, n, 1, cell, epoch, weights, nil)
				wantNone(t, "Up of the level 1", m, e, api.ErrLevel)
			}
		}
	}
}

// wantRefusedPlace asks for an error of a level and a cell; Leaf has no level but the first one.
func wantRefusedPlace(t *testing.T, g api.Graph, n api.Nest, level, cell, epoch int, weights []uint32, want api.Errno) {
	t.Helper()
	m, e := Whole(g, n, level, cell, epoch)
	wantNone(t, "Whole", m, e, want)
	for _, children := range [][]api.Matrix{nil, make([]api.Matrix, 2), make([]api.Matrix, api.MaxItems+1)} {
		m, e = Up(g, n, level, cell, epoch, weights, children)
		wantNone(t, "Up", m, e, want)
	}
	if level == 1 {
		m, e = Leaf(g, n, cell, epoch, weights)
		wantNone(t, "Leaf", m, e, want)
	}
}

// Promises 13.2 to 13.4, R1, R5: epochs from the least to the greatest, and others, ahead of weights and matrices that are wrong.
func TestEpochs(t *testing.T) {
	g, n := plain.Rounds()
	right := plainLevels(g, n, 0)
	for _, epoch := range []int{0, 1, api.MaxTicks - 1, api.MaxTicks} {
		m, e := Leaf(g, n, 1, epoch, []uint32{4})
		wantMatrix(t, "Leaf", g, n, m, e, 1, 1, epoch, right[0][1].D...)
		m, e = Up(g, n, 2, 0, epoch, []uint32{1, 3, 0}, right[0][:2])
		wantMatrix(t, "Up", g, n, m, e, 2, 0, epoch, right[1][0].D...)
		m, e = Whole(g, n, 3, 0, epoch)
		wantMatrix(t, "Whole", g, n, m, e, 3, 0, epoch, right[2][0].D...)
	}
	for _, epoch := range plain.WrongEpochs() {
		for _, weights := range [][]uint32{nil, {4}, {1, 3, 0}, make([]uint32, api.MaxItems+1)} {
			m, e := Leaf(g, n, 1, epoch, weights)
			wantNone(t, "Leaf", m, e, api.ErrRange)
			for _, children := range [][]api.Matrix{nil, right[0][:2], right[0], right[1]} {
				m, e = Up(g, n, 2, 0, epoch, weights, children)
				wantNone(t, "Up", m, e, api.ErrRange)
			}
		}
		m, e := Whole(g, n, 3, 0, epoch)
		wantNone(t, "Whole", m, e, api.ErrRange)
	}
}

// Promises 13.2, 13.3, R1, R5: other numbers of weights, also of more than any list may have, ahead of matrices that are wrong.
func TestWrongWeights(t *testing.T) {
	g, n := plain.Rounds()
	right := plainLevels(g, n, 0)
	for _, many := range []int{0, 1, 2, 3, 4, len(g.Arcs), api.MaxItems, api.MaxItems + 1} {
		// Spare room is none of a list's members, even if it would make their number right.
		weights := make([]uint32, many, many+20)
		for cell, inner := range []int{3, 1, 0, 0} {
			if many != inner {
				m, e := Leaf(g, n, cell, 0, weights)
				wantNone(t, "Leaf", m, e, api.ErrShape)
			}
		}
		for cell, between := range []int{3, 0, 0} {
			for _, children := range [][]api.Matrix{nil, right[0][:2], right[0], right[1], make([]api.Matrix, api.MaxItems+1)} {
				if many != between {
					m, e := Up(g, n, 2, cell, 0, weights, children)
					wantNone(t, "Up", m, e, api.ErrShape)
				}
			}
		}
	}
}

// Promise 13.3, R5: matrices that are not those of the children, at all places.
func TestWrongChildren(t *testing.T) {
	g, n := plain.Rounds()
	weights, right := []uint32{1, 3, 0}, plainLevels(g, n, 0)[0][:2]
	want := func(name string, epoch int, e api.Errno, children ...api.Matrix) {
		t.Helper()
		m, got := Up(g, n, 2, 0, epoch, weights, children)
		if e != api.OK {
			wantNone(t, name, m, got, e)
		} else {
			wantMatrix(t, name, g, n, m, got, 2, 0, epoch, plain.Whole(g, n, 2, 0)...)
		}
	}
	a, b := right[0], right[1]
	want("right", 0, api.OK, a, b)
	want("none", 0, api.ErrMatrix)
	want("one", 0, api.ErrMatrix, a)
	want("the other one", 0, api.ErrMatrix, b)
	want("one twice", 0, api.ErrMatrix, a, a)
	want("turned about", 0, api.ErrMatrix, b, a)
	want("one more", 0, api.ErrMatrix, a, b, b)
	want("of another cell, too", 0, api.ErrMatrix, a, b, api.Matrix{Level: 1, Cell: 2, D: []api.Dist{0}})
	want("far too many", 0, api.ErrMatrix, slices.Repeat([]api.Matrix{a}, api.MaxItems+1)...)
	for at := range right {
		for _, x := range []struct {
			name   string
			epoch  int
			e      api.Errno
			change func(m *api.Matrix)
		}{
			{"this level", 0, api.ErrMatrix, func(m *api.Matrix) { m.Level = 2 }}, {"no level", 0, api.ErrMatrix, func(m *api.Matrix) { m.Level = 0 }},
			{"another cell", 0, api.ErrMatrix, func(m *api.Matrix) { m.Cell = 2 }}, {"no cell", 0, api.ErrMatrix, func(m *api.Matrix) { m.Cell = -1 }},
			{"a later epoch", 0, api.ErrMatrix, func(m *api.Matrix) { m.Epoch = 1 }}, {"this epoch", 8, api.OK, func(m *api.Matrix) { m.Epoch = 8 }},
			{"an epoch later", 8, api.ErrMatrix, func(m *api.Matrix) { m.Epoch = 9 }}, {"an earlier epoch", 8, api.OK, func(m *api.Matrix) { m.Epoch = 7 }},
			{"the last epoch", api.MaxTicks, api.OK, func(m *api.Matrix) { m.Epoch = api.MaxTicks }}, {"no epoch", api.MaxTicks, api.ErrMatrix, func(m *api.Matrix) { m.Epoch = api.MaxTicks + 1 }},
			{"below 0", 8, api.ErrMatrix, func(m *api.Matrix) { m.Epoch = -1 }}, {"far below 0", 8, api.ErrMatrix, func(m *api.Matrix) { m.Epoch = math.MinInt }},
			{"a member less", 0, api.ErrMatrix, func(m *api.Matrix) { m.D = m.D[:3] }}, {"a member more", 0, api.ErrMatrix, func(m *api.Matrix) { m.D = append(m.D[:4:4], 0) }},
			{"no member", 0, api.ErrMatrix, func(m *api.Matrix) { m.D = nil }}, {"a square", 0, api.ErrMatrix, func(m *api.Matrix) { m.D = make([]api.Dist, 9) }},
		} {
			children := slices.Clone(right)
			x.change(&children[at])
			want(x.name, x.epoch, x.e, children...)
		}
	}
}

// Promise 13.4, R1, R5: ids that are none, and too many of them, whatever they are.
func TestWeights(t *testing.T) {
	draw := plain.Noise()
	g := plain.Graph(draw, 9, 50, 1<<20)
	for range 40 {
		var arcs []int
		for range draw(100) {
			arcs = append(arcs, draw(50))
		}
		if l, e := Weights(g, arcs); e != api.OK || !slices.Equal(l, plain.Weights(g, arcs)) {
			t.Error(arcs, l, e)
		}
	}
	for _, wrong := range append(plain.WrongNumbers(), len(g.Arcs)) {
		for _, arcs := range [][]int{{wrong}, {0, 1, wrong}, {wrong, 0}, append(make([]int, api.MaxItems-1), wrong)} {
			l, e := Weights(g, arcs)
			wantNoWeights(t, "no id", l, e, api.ErrNone)
			l, e = Weights(api.Graph{N: 9}, arcs)
			wantNoWeights(t, "no arcs at all", l, e, api.ErrNone)
		}
		l, e := Weights(g, slices.Repeat([]int{wrong}, api.MaxItems+1))
		wantNoWeights(t, "too many that are none", l, e, api.ErrLong)
	}
	// What lies in the spare room behind the arcs has no id.
	l, e := Weights(api.Graph{N: 9, Arcs: g.Arcs[:7]}, []int{7})
	wantNoWeights(t, "spare room", l, e, api.ErrNone)
	l, e = Weights(g, make([]int, api.MaxItems+1))
	wantNoWeights(t, "too many", l, e, api.ErrLong)
	if l, e = Weights(g, make([]int, api.MaxItems)); e != api.OK || len(l) != api.MaxItems || l[api.MaxItems-1] != g.Arcs[0].Weight {
		t.Error("as many as there may be", len(l), e)
	}
}

// R1, R2, R5: all calls but Weights answer what chapter 11's Check refuses, ahead of what else is wrong.
func TestWrongNests(t *testing.T) {
	for _, x := range plain.WrongNests() {
		wantRefused(t, x.G, x.N, x.Want)
		if l, e := Weights(x.G, []int{0}); e != api.OK || len(l) != 1 {
			t.Error("Weights has no nest:", l, e)
		}
	}
}

// R1, R2, R5: all calls answer what chapter 3's Check refuses, ahead of what else is wrong.
func TestWrongGraphs(t *testing.T) {
	for _, x := range plain.WrongGraphs() {
		wantRefused(t, x.G, x.N, x.Want)
		for _, arcs := range [][]int{nil, {0}, {-1}, {math.MaxInt}, make([]int, api.MaxItems+1)} {
			l, e := Weights(x.G, arcs)
			wantNoWeights(t, "Weights", l, e, x.Want)
		}
	}
}

// wantRefused asks all calls with a nest for an error, whatever stands behind it.
func wantRefused(t *testing.T, g api.Graph, n api.Nest, want api.Errno) {
	t.Helper()
	for _, level := range []int{math.MinInt, 0, 1, 2, math.MaxInt} {
		for _, cell := range []int{-1, 0, 1, math.MaxInt} {
			for _, epoch := range []int{-1, 0, api.MaxTicks + 1} {
				wantRefusedPlace(t, g, n, level, cell, epoch, nil, want)
				wantRefusedPlace(t, g, n, level, cell, epoch, []uint32{1}, want)
				wantErrno(t, "Check", Check(g, n, api.Matrix{Level: level, Cell: cell, Epoch: epoch}), want)
				wantErrno(t, "Check", Check(g, n, api.Matrix{Level: level, Cell: cell, Epoch: epoch, D: []api.Dist{0}}), want)
			}
		}
	}
}

// R4: what is handed in stays as it was, spare room too, what lies there is not read, and answers are new memory.
func TestMemory(t *testing.T) {
	g, n := plain.Rounds()
	right := plainLevels(g, n, 0)
	bad := api.Arc{From: -7, To: -7, Weight: 7}
	arcs := append(g.Arcs, bad, bad)
	g.Arcs = arcs[:len(arcs)-2]
	lists := [][]int{append(n.Bounds, -1, 9), {5, 0, -1, 99}}
	for _, l := range n.Cells {
		lists = append(lists, append(l, -9, 7))
	}
	n = api.Nest{Bounds: lists[0][:3], Cells: [][]int{lists[2][:6], lists[3][:6], lists[4][:6], {9}}[:3]}
	weights := []uint32{2, 9, 7, 1, 3, 0, 77}
	dists := [][]api.Dist{append(right[0][0].D, 1, 2), append(right[0][1].D, 3)}
	children := []api.Matrix{{Level: 1, Cell: 0, D: dists[0][:4]}, {Level: 1, Cell: 1, D: dists[1][:4]}, {Level: -1, Cell: -1}}
	arcsWere, weightsWere, childrenWere := slices.Clone(arcs), slices.Clone(weights), slices.Clone(children)
	var listsWere [][]int
	for _, l := range lists {
		listsWere = append(listsWere, slices.Clone(l))
	}
	distsWere := [][]api.Dist{slices.Clone(dists[0]), slices.Clone(dists[1])}
	var answers [][]api.Dist
	var told [][]uint32
	for range 2 {
		leaf, e := Leaf(g, n, 0, 0, weights[:3])
		up, e2 := Up(g, n, 2, 0, 0, weights[3:6], children[:2])
		whole, e3 := Whole(g, n, 2, 0, 0)
		l, e4 := Weights(g, lists[1][:2])
		wantOK(t, "answers", e, e2, e3, e4, Check(g, n, children[0]))
		answers, told = append(answers, leaf.D, up.D, whole.D), append(told, l)
	}
	for i, l := range answers {
		if overlap(l, arcs) || overlap(l, weights) || overlap(l, children) || overlap(l, told[0]) || slices.ContainsFunc(lists, func(x []int) bool { return overlap(l, x) }) {
			t.Error("an answer shares memory")
		}
		for _, other := range slices.Concat(answers[:i], dists) {
			if overlap(l, other) {
				t.Error("an answer shares memory with distances")
			}
		}
		clear(l[:cap(l)])
	}
	for _, l := range told {
		if overlap(l, arcs) || overlap(l, weights) || overlap(l, lists[1]) {
			t.Error("weights share memory")
		}
		clear(l[:cap(l)])
	}
	if overlap(told[0], told[1]) {
		t.Error("weights share memory with those told ahead")
	}
	same := func(a, b api.Matrix) bool {
		return a.Level == b.Level && a.Cell == b.Cell && a.Epoch == b.Epoch && len(a.D) == len(b.D) && (len(a.D) == 0 || &a.D[0] == &b.D[0])
	}
	if !slices.Equal(arcs, arcsWere) || !slices.Equal(weights, weightsWere) || !slices.EqualFunc(lists, listsWere, slices.Equal) || !slices.EqualFunc(dists, distsWere, slices.Equal) || !slices.EqualFunc(children, childrenWere, same) {
		t.Error("what was handed in is changed")
	}
}

// R7: the same call tells the same, whatever was called ahead, and whatever room lies behind the lists.
func TestTellsTheSame(t *testing.T) {
	draw := plain.Noise()
	same := func(a, b []api.Matrix) bool {
		return slices.EqualFunc(a, b, func(a, b api.Matrix) bool { return a.Epoch == b.Epoch && slices.Equal(a.D, b.D) })
	}
	for range 20 {
		n := 4 + draw(40)
		g, x := plain.Graph(draw, n, 3*n, 100), plain.Nest(draw, n, 3)
		first := climb(t, g, x)
		for range 3 {
			climb(t, plain.Graph(draw, n, n, 5), plain.Nest(draw, n, 2))
			h := api.Graph{N: n, Arcs: slices.Grow(slices.Clone(g.Arcs), 1+draw(9))}
			if again := climb(t, h, x); !slices.EqualFunc(first, again, same) {
				t.Fatal(first, again)
			}
		}
	}
}

// Promises 13.1 to 13.5, P1: graphs, nests and places that are made up.
func FuzzClique(f *testing.F) {
	f.Add(3, 1, 0, 0, []byte{0, 1, 5, 1, 2, 7, 0, 2, 20}, []byte{0, 0, 1}, []byte{5, 0})
	f.Add(4, 2, 0, 1, []byte{0, 1, 5, 1, 2, 7, 2, 0, 20, 2, 3, 1, 3, 0, 2}, []byte{0, 0, 1, 2, 0, 0, 0, 1}, []byte{7, 20})
	f.Add(0, -1, 9, -1, []byte{255, 3}, []byte{255}, []byte{255})
	f.Add(2, 5, -1, api.MaxTicks+1, []byte{}, []byte{0, 1, 0, 1, 0, 1, 0, 1, 0, 0}, []byte{})
	f.Fuzz(func(t *testing.T, n, level, cell, epoch int, ends, numbers, dists []byte) {
		g, x := plain.Read(n, ends, numbers)
		m := api.Matrix{Level: level, Cell: cell, Epoch: epoch}
		for _, d := range dists {
			m.D = append(m.D, api.Dist(d))
		}
		fuzzed(t, g, x, m)
	})
}

// fuzzed holds all calls against the plain readings, or against the error that they must answer.
func fuzzed(t *testing.T, g api.Graph, n api.Nest, m api.Matrix) {
	if _, e := nest.Check(g, n); e != api.OK {
		wantRefused(t, g, n, e)
		return
	}
	wantPlain(t, g, g, n, 2)
	if m.Level < 1 || m.Level > len(n.Cells) {
		wantRefusedPlace(t, g, n, m.Level, m.Cell, m.Epoch, nil, api.ErrLevel)
		wantErrno(t, "Check", Check(g, n, m), api.ErrMatrix)
		return
	}
	if m.Cell < 0 || m.Cell >= plain.Many(n, m.Level) {
		wantRefusedPlace(t, g, n, m.Level, m.Cell, m.Epoch, nil, api.ErrCell)
		wantErrno(t, "Check", Check(g, n, m), api.ErrMatrix)
		return
	}
	b, want := len(plain.Boundary(g, n, m.Level, m.Cell)), api.ErrMatrix
	if m.Epoch >= 0 && m.Epoch <= api.MaxTicks && len(m.D) == b*b {
		want = api.OK
	}
	wantErrno(t, "Check", Check(g, n, m), want)
	if want != api.OK || m.Level == len(n.Cells) {
		return
	}
	parent := n.Cells[m.Level][slices.Index(n.Cells[m.Level-1], m.Cell)]
	cells := plain.Children(n, m.Level+1, parent)
	children := plain.Chosen(plainLevels(g, n, 0)[m.Level-1], cells)
	children[slices.Index(cells, m.Cell)] = m
	up, e := Up(g, n, m.Level+1, parent, m.Epoch, plain.Weights(g, plain.Between(g, n, m.Level+1, parent)), children)
	wantMatrix(t, "Up", g, n, up, e, m.Level+1, parent, m.Epoch, plain.Up(g, n, m.Level+1, parent, children)...)
}
