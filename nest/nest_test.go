package nest

import (
	"math"
	"slices"
	"testing"

	"flyover/api"
)

// Promises 11.1 to 11.4: the chapter's examples.
func TestExamples(t *testing.T) {
	g := triangles()
	n, e := Make(g, []int{3, 6}, []int{0}, 0)
	wantNest(t, "Make", n, e, nest([]int{3, 6}, []int{0, 0, 0, 1, 1, 1}, make([]int, 6)))
	l, e := Children(g, n, 2, 0)
	wantList(t, "Children", l, e, 0, 1)
	apart, e := Apart(g, n, 0, 3)
	wantNumber(t, "Apart", apart, e, 1)
	apart, e = Apart(g, n, 0, 1)
	wantNumber(t, "Apart", apart, e, 0)
	level, e := Check(g, nest([]int{3, 3}, n.Cells...))
	wantLevel(t, "bounds 3, 3", level, e, 2, api.ErrRange)
	n, e = Make(g, []int{3, 3}, []int{0}, 0)
	wantNoNest(t, "bounds 3, 3", n, e, api.ErrRange)
	level, e = Check(api.Graph{N: 3}, nest([]int{2, 3}, []int{0, 0, 1}, []int{0, 1, 1}))
	wantLevel(t, "not nested", level, e, 2, api.ErrNest)
}

// Promises 11.1, 11.3, 11.4: what is told by hand of three levels, whose cells hang on no arcs.
func TestLevels(t *testing.T) {
	for _, g := range []api.Graph{{N: 8}, way(8), star(8), arcs(8, 7, 7, 0, 7, 7, 0)} {
		n := nest([]int{3, 4, 8}, []int{0, 1, 0, 2, 3, 1, 4, 0}, []int{0, 1, 0, 2, 1, 1, 2, 0}, []int{0, 1, 0, 0, 1, 1, 0, 0})
		level, e := Check(g, n)
		wantLevel(t, "Check", level, e, 0, api.OK)
		for level, want := range []int{1: 5, 2: 3, 3: 2} {
			if level > 0 {
				many, e := Many(g, n, level)
				wantNumber(t, "Many", many, e, want)
			}
		}
		for _, x := range []struct {
			level, cell       int
			members, children []int
			parent            int
		}{
			{1, 0, []int{0, 2, 7}, nil, 0}, {1, 1, []int{1, 5}, nil, 1}, {1, 2, []int{3}, nil, 2}, {1, 3, []int{4}, nil, 1}, {1, 4, []int{6}, nil, 2},
			{2, 0, []int{0, 2, 7}, []int{0}, 0}, {2, 1, []int{1, 4, 5}, []int{1, 3}, 1}, {2, 2, []int{3, 6}, []int{2, 4}, 0},
			{3, 0, []int{0, 2, 3, 6, 7}, []int{0, 2}, 0}, {3, 1, []int{1, 4, 5}, []int{1}, 0},
		} {
			l, e := Members(g, n, x.level, x.cell)
			wantList(t, "Members", l, e, x.members...)
			if l, e = Children(g, n, x.level, x.cell); x.level == 1 {
				wantNoList(t, "Children", l, e, api.ErrLevel)
			} else {
				wantList(t, "Children", l, e, x.children...)
			}
			if p, e := Parent(g, n, x.level, x.cell); x.level == 3 {
				wantNoNumber(t, "Parent", p, e, api.ErrLevel)
			} else {
				wantNumber(t, "Parent", p, e, x.parent)
			}
		}
		for _, x := range [][3]int{{0, 0, 0}, {0, 2, 0}, {0, 7, 0}, {1, 4, 1}, {4, 5, 1}, {3, 6, 1}, {0, 3, 2}, {6, 7, 2}, {0, 1, 3}, {6, 5, 3}} {
			apart, e := Apart(g, n, x[0], x[1])
			wantNumber(t, "Apart", apart, e, x[2])
			apart, e = Apart(g, n, x[1], x[0])
			wantNumber(t, "Apart, turned about", apart, e, x[2])
		}
	}
}

// Promise 11.2: each step by hand.
func TestMakeStepByStep(t *testing.T) {
	whole := make([]int, 6)
	for name, x := range map[string]struct {
		g               api.Graph
		bounds, centres []int
		moves           int
		want            [][]int
	}{
		// The only fragment is cut up: 0, 1, 2, 3 and 4, 5.
		"cut up": {triangles(), []int{4}, nil, 0, [][]int{{0, 0, 0, 0, 1, 1}}},
		// 3 has one neighbour in its own cell and two in the other one.
		"made better":                   {triangles(), []int{4}, nil, 1, [][]int{{0, 0, 0, 1, 1, 1}}},
		"made better as far as it goes": {triangles(), []int{4, 5, 6}, nil, api.MaxItems, [][]int{{0, 0, 0, 1, 1, 1}, {0, 0, 0, 1, 1, 1}, whole}},
		// Around 0 the least cut of 4 is the bridge.
		"cut": {triangles(), []int{4}, []int{0}, 0, [][]int{{0, 0, 0, 1, 1, 1}}},
		// Around 5 too, and no move gains anything then.
		"cut from the other side": {triangles(), []int{4, 6}, []int{5, 5}, 7, [][]int{{0, 0, 0, 1, 1, 1}, whole}},
		// Cuts of 1 are all pairs of the centre: 0, 1 and 2 alone, 3, 4, 5 three; put together under 1 none can be, so 3, 4, 5 are cut up.
		"cuts of one": {triangles(), []int{1, 3, 6}, []int{0, 1, 2}, 9, [][]int{count(6), {0, 0, 0, 1, 1, 1}, whole}},
		// Each cut of 2 parts its centre from all others; of the single vertices 0 and 1 go together first, then 2 and 3, since 0 has no room any more.
		"put together": {triangles(), []int{2}, []int{0, 1, 2, 3, 4, 5}, 9, [][]int{{0, 0, 1, 1, 2, 2}}},
		// A vertex without a neighbour stays alone, however great the bounds are.
		"parts":                   {arcs(4, 3, 1), []int{2, 4, 1024}, []int{3, 0}, 5, [][]int{{0, 1, 2, 1}, {0, 1, 2, 1}, {0, 1, 2, 1}}},
		"one vertex, five levels": {arcs(1, 0, 0), []int{1, 2, 3, 4, 1024}, []int{0, 0}, 5, [][]int{{0}, {0}, {0}, {0}, {0}}},
		// Cells of 2; of the pairs 1 2, 3 4, 5 6 the first joins cells, then the third; then the two.
		"levels of a way": {way(8), []int{2, 4, 7, 8}, nil, 0, [][]int{{0, 0, 1, 1, 2, 2, 3, 3}, {0, 0, 0, 0, 1, 1, 1, 1}, {0, 0, 0, 0, 1, 1, 1, 1}, make([]int, 8)}},
	} {
		n, e := Make(x.g, x.bounds, x.centres, x.moves)
		wantNest(t, name, n, e, nest(x.bounds, x.want...))
	}
}

// Promise 11.2: nothing is made better above the level 1: the vertex 3 would gain by going over, and stays.
func TestMovesAtTheLowestAlone(t *testing.T) {
	// Cells of 2: 0 1, 2 3, 4 5, 6 7. All are full, so that no move is open.
	g := arcs(8, 0, 1, 2, 3, 4, 5, 6, 7, 0, 2, 1, 2, 3, 4, 3, 5, 3, 6, 3, 7, 1, 0)
	cells := []int{0, 0, 1, 1, 2, 2, 3, 3}
	n, e := Make(g, []int{2, 5}, nil, api.MaxItems)
	wantNest(t, "Make", n, e, steps(t, g, []int{2, 5}, nil, api.MaxItems))
	if !slices.Equal(n.Cells[0], cells) || !slices.Equal(n.Cells[1], []int{0, 0, 0, 0, 1, 1, 2, 2}) {
		t.Error(n)
	}
}

// Promise 11.2: what is made is what the steps come to.
func TestMakeAgainstSteps(t *testing.T) {
	draw := noise()
	for _, g := range manyGraphs() {
		for range 40 {
			bounds := drawnBounds(draw, g.N+2)
			if len(bounds) == 0 {
				continue
			}
			centres, moves := drawnList(draw, draw(2*g.N+1), g.N), []int{0, 1, draw(9), api.MaxItems}[draw(4)]
			n, e := Make(g, bounds, centres, moves)
			wantNest(t, "Make", n, e, steps(t, g, bounds, centres, moves))
			if t.Failed() {
				t.Fatal(g, bounds, centres, moves)
			}
		}
	}
}

// Promise 11.1: all labels of few vertices at up to three levels, with all bounds around their sizes.
func TestCheckAll(t *testing.T) {
	for n := 1; n < 5; n++ {
		g, all := way(n), allLabels(n)
		for _, low := range all {
			for bound := range n + 2 {
				wantChecked(t, g, nest([]int{bound}, low))
			}
			for _, high := range all {
				for bound := range n + 2 {
					for above := range n + 3 {
						wantChecked(t, g, nest([]int{bound, above}, low, high))
					}
				}
				for _, top := range all {
					wantChecked(t, g, nest([]int{n, n + 1, n + 2}, low, high, top))
					wantChecked(t, g, nest([]int{n, n + 1, n - 1}, low, high, top))
					wantChecked(t, g, nest([]int{n - 2, n - 1, n}, low, high, top))
				}
			}
		}
	}
}

// Promise 11.1: labels that are right or not, at both of two levels.
func TestCheckLabels(t *testing.T) {
	for n := 1; n < 4; n++ {
		for _, low := range allLists(n) {
			for _, high := range allLists(n) {
				for _, bounds := range [][]int{{n - 1, n}, {n, n + 1}, {n, n}} {
					wantChecked(t, arcs(n, n-1, 0), nest(bounds, low, high))
				}
			}
		}
	}
}

// Promise 11.1: right nests of any number of levels, and what one number less or more makes of them.
func TestCheckDrawn(t *testing.T) {
	draw := noise()
	for range 4000 {
		n := 1 + draw(24)
		g := drawn(draw, n, draw(2*n))
		x := drawnNest(draw, n, 1+draw(api.MaxLevels))
		if level, e := Check(g, x); level != 0 || e != api.OK {
			t.Fatalf("%v: %d, %v", x, level, e)
		}
		at := draw(len(x.Bounds))
		switch draw(4) {
		case 0:
			x.Cells[at] = plainTidy(drawnList(draw, n, 1+draw(n)))
		case 1:
			x.Cells[at][draw(n)] += draw(3) - 1
		case 2:
			x.Bounds[at] += draw(3) - 1
		case 3:
			low, high := draw(n), draw(n)
			x.Cells[at][low], x.Cells[at][high] = x.Cells[at][high], x.Cells[at][low]
		}
		wantChecked(t, g, x)
	}
}

// wantChecked holds Check against the plain reading, and asks the other calls for what it refuses.
func wantChecked(t *testing.T, g api.Graph, n api.Nest) {
	t.Helper()
	level, e := Check(g, n)
	atLevel, want := plainCheck(g, n)
	wantLevel(t, "Check", level, e, atLevel, want)
	if want != api.OK {
		wantRefused(t, "what Check refuses", g, n, want)
	}
	if t.Failed() {
		t.Fatal(g, n)
	}
}

// Promise 11.1, R1: what is wrong at several levels, and in several ways at one.
func TestCheckOrder(t *testing.T) {
	g := way(4)
	whole, single, halves, wrong := make([]int, 4), count(4), []int{0, 0, 1, 1}, []int{0, 2, 1, 1}
	for name, x := range map[string]struct {
		n     api.Nest
		level int
		e     api.Errno
	}{
		"nothing":                            {api.Nest{}, 0, api.ErrLevel},
		"empty lists":                        {api.Nest{Bounds: []int{}, Cells: [][]int{}}, 0, api.ErrLevel},
		"bounds alone":                       {nest([]int{4}), 0, api.ErrLevel},
		"cells alone":                        {nest(nil, whole), 0, api.ErrLevel},
		"one bound too few":                  {nest([]int{4}, halves, whole), 0, api.ErrLevel},
		"one bound too many":                 {nest([]int{2, 4}, halves), 0, api.ErrLevel},
		"a level too many":                   {nest([]int{1, 2, 3, 4, 5, 6}, single, single, single, single, single, single), 0, api.ErrLevel},
		"as many as there may be":            {nest([]int{1, 2, 3, 4, 5}, single, single, single, single, single), 0, api.OK},
		"numbers of levels ahead of bounds":  {nest([]int{-1, 0}, halves), 0, api.ErrLevel},
		"a bound of 0":                       {nest([]int{0, 4}, single, whole), 1, api.ErrRange},
		"a bound below 0":                    {nest([]int{math.MinInt}, single), 1, api.ErrRange},
		"the greatest bound":                 {nest([]int{api.MaxVertices}, single), 0, api.OK},
		"a bound above it":                   {nest([]int{api.MaxVertices + 1}, single), 1, api.ErrRange},
		"a bound above it, at the level 2":   {nest([]int{4, api.MaxVertices + 1}, single, single), 2, api.ErrRange},
		"the greatest bound twice":           {nest([]int{api.MaxVertices, api.MaxVertices}, single, single), 2, api.ErrRange},
		"a bound that falls":                 {nest([]int{2, 4, 3}, halves, whole, whole), 3, api.ErrRange},
		"a bound ahead of labels":            {nest([]int{0}, wrong), 1, api.ErrRange},
		"a bound behind the level below":     {nest([]int{4, 4}, wrong, whole), 1, api.ErrLabel},
		"too few labels":                     {nest([]int{4}, whole[1:]), 1, api.ErrLabel},
		"too many labels":                    {nest([]int{4, 5}, whole, make([]int, 5)), 2, api.ErrLabel},
		"no labels":                          {nest([]int{4, 5}, whole, nil), 2, api.ErrLabel},
		"more labels than items":             {nest([]int{4}, make([]int, api.MaxItems+1)), 1, api.ErrLabel},
		"labels ahead of a size":             {nest([]int{1}, wrong), 1, api.ErrLabel},
		"a size above the bound":             {nest([]int{1, 4}, halves, whole), 1, api.ErrBound},
		"a size above the bound, at level 2": {nest([]int{2, 3}, halves, whole), 2, api.ErrBound},
		"not nested, at level 2":             {nest([]int{2, 3, 4}, halves, []int{0, 1, 1, 1}, whole), 2, api.ErrNest},
		"a size that level 2 alone has":      {nest([]int{1, 2}, single, []int{0, 1, 1, 1}), 2, api.ErrBound},
		"not nested at levels 2 and 3":       {nest([]int{3, 4, 5}, []int{0, 1, 0, 1}, []int{0, 1, 1, 1}, halves), 2, api.ErrNest},
		"not nested at the last level":       {nest([]int{1, 2, 3}, single, halves, []int{0, 0, 0, 1}), 3, api.ErrNest},
		"not nested in the middle":           {nest([]int{2, 3, 4}, halves, single, whole), 2, api.ErrNest},
		"alike is nested":                    {nest([]int{2, 3, 4}, halves, halves, halves), 0, api.OK},
	} {
		level, e := Check(g, x.n)
		wantLevel(t, name, level, e, x.level, x.e)
	}
	long := make([]int, api.MaxItems+1)
	level, e := Check(g, api.Nest{Bounds: long, Cells: make([][]int, len(long))})
	wantLevel(t, "more levels than items", level, e, 0, api.ErrLevel)
	level, e = Check(way(5), nest([]int{2, 3}, []int{0, 0, 1, 1, 2}, []int{0, 1, 1, 1, 1}))
	wantLevel(t, "a size above the bound, and not nested", level, e, 2, api.ErrBound)
}

// Promises 11.3, 11.4: against plain readings, of nests that were drawn and of nests that were made.
func TestAgainstPlain(t *testing.T) {
	draw := noise()
	for n := 1; n < 20; n++ {
		for range 6 {
			g := drawn(draw, n, draw(3*n+1))
			wantPlain(t, g, drawnNest(draw, n, 1+draw(api.MaxLevels)))
			made, e := Make(g, []int{1 + n/4, 2 + n/2, n + 2}, []int{draw(n), draw(n)}, draw(5))
			if e != api.OK {
				t.Fatal(e)
			}
			wantPlain(t, g, made)
		}
	}
}

// wantPlain asks all calls of all levels, cells and vertices.
func wantPlain(t *testing.T, g api.Graph, n api.Nest) {
	t.Helper()
	for at, cells := range n.Cells {
		level, many := at+1, len(plainSizes(cells))
		got, e := Many(g, n, level)
		wantNumber(t, "Many", got, e, many)
		for cell := range many {
			wantCell(t, g, n, level, cell)
		}
	}
	for u := range g.N {
		for v := range g.N {
			apart, e := Apart(g, n, u, v)
			wantNumber(t, "Apart", apart, e, plainApart(n, u, v))
		}
	}
	if t.Failed() {
		t.Fatal(g, n)
	}
}

func wantCell(t *testing.T, g api.Graph, n api.Nest, level, cell int) {
	t.Helper()
	l, e := Members(g, n, level, cell)
	wantList(t, "Members", l, e, plainMembers(n, level, cell)...)
	if l, e = Children(g, n, level, cell); level == 1 {
		wantNoList(t, "Children", l, e, api.ErrLevel)
	} else {
		wantList(t, "Children", l, e, plainChildren(n, level, cell)...)
	}
	if p, e := Parent(g, n, level, cell); level == len(n.Bounds) {
		wantNoNumber(t, "Parent", p, e, api.ErrLevel)
	} else {
		wantNumber(t, "Parent", p, e, plainParent(n, level, cell))
	}
}

// Promise 11.5: what is made is right, whatever the centres are; cells part the vertices, children their cell.
func TestFollows(t *testing.T) {
	draw := noise()
	for _, g := range manyGraphs() {
		for _, centres := range [][]int{nil, {0}, {g.N - 1, 0, g.N - 1}, count(g.N), drawnList(draw, 5, g.N), drawnList(draw, 3*g.N, g.N)} {
			bound := 1 + draw(g.N)
			n, e := Make(g, []int{bound, bound + 1, 2*bound + 2}, centres, draw(20))
			if e != api.OK {
				t.Fatal(e)
			}
			level, e := Check(g, n)
			wantLevel(t, "what is made", level, e, 0, api.OK)
			if level, e = plainCheck(g, n); e != api.OK {
				t.Fatal(level, e)
			}
			for level := 1; level <= 3; level++ {
				wantParts(t, g, n, level)
			}
		}
	}
}

// wantParts asks that the members of a level's cells are all vertices, each once, and so the children's members those of the cell.
func wantParts(t *testing.T, g api.Graph, n api.Nest, level int) {
	t.Helper()
	many, e := Many(g, n, level)
	if e != api.OK {
		t.Fatal(e)
	}
	var all []int
	for cell := range many {
		members, e := Members(g, n, level, cell)
		if e != api.OK || len(members) == 0 || len(members) > n.Bounds[level-1] {
			t.Fatal(members, e)
		}
		all = append(all, members...)
		if level == 1 {
			continue
		}
		children, e := Children(g, n, level, cell)
		if e != api.OK {
			t.Fatal(e)
		}
		var below []int
		for _, child := range children {
			l, e := Members(g, n, level-1, child)
			p, e2 := Parent(g, n, level-1, child)
			wantNumber(t, "Parent", p, max(e, e2), cell)
			below = append(below, l...)
		}
		slices.Sort(below)
		wantList(t, "the children's members", below, api.OK, members...)
	}
	slices.Sort(all)
	wantList(t, "all members", all, api.OK, count(g.N)...)
}

// Promises 11.1 to 11.5, P1: the greatest graphs, with as many centres as there may be, one and none.
func TestGreatest(t *testing.T) {
	draw := noise()
	for at, g := range greatGraphs() {
		for _, bounds := range [][]int{{1, 2, 3, 4, 1024}, {7, 100}, {300, 301, 600, 1024}, {1024}} {
			for _, centres := range [][]int{nil, drawnList(draw, 6, g.N)} {
				n, e := Make(g, bounds, centres, api.MaxItems)
				if e != api.OK {
					t.Fatal(e)
				}
				if len(centres) == 0 {
					wantNest(t, "Make", n, e, steps(t, g, bounds, centres, api.MaxItems))
				}
				wantGreat(t, g, n, draw)
			}
		}
		n, e := Make(g, []int{16, 64}, drawnList(draw, api.MaxItems, g.N), 1000)
		if e != api.OK {
			t.Fatal(e)
		}
		wantGreat(t, g, n, draw)
		wantGreat(t, g, drawnNest(draw, g.N, 5-at%2), draw)
	}
}

func wantGreat(t *testing.T, g api.Graph, n api.Nest, draw func(int) int) {
	t.Helper()
	if level, e := plainCheck(g, n); e != api.OK {
		t.Fatal(level, e)
	}
	level, e := Check(g, n)
	wantLevel(t, "Check", level, e, 0, api.OK)
	for range 5 {
		level := 1 + draw(len(n.Bounds))
		many := len(plainSizes(n.Cells[level-1]))
		got, e := Many(g, n, level)
		wantNumber(t, "Many", got, e, many)
		cell := draw(many)
		l, e := Members(g, n, level, cell)
		wantList(t, "Members", l, e, plainMembers(n, level, cell)...)
		if level > 1 {
			l, e = Children(g, n, level, cell)
			wantList(t, "Children", l, e, plainChildren(n, level, cell)...)
		}
		u, v := draw(g.N), draw(g.N)
		apart, e := Apart(g, n, u, v)
		wantNumber(t, "Apart", apart, e, plainApart(n, u, v))
		if level < len(n.Bounds) {
			p, e := Parent(g, n, level, n.Cells[level-1][u])
			wantNumber(t, "Parent", p, e, n.Cells[level][u])
		}
	}
}

// Promises 11.3, 11.4, R1, R2: levels, cells and vertices that there are not.
func TestWrongPlaces(t *testing.T) {
	for _, g := range []api.Graph{triangles(), {N: 6}} {
		for _, n := range []api.Nest{nest([]int{3, 6}, []int{0, 0, 0, 1, 1, 1}, make([]int, 6)), nest([]int{1}, count(6)), nest([]int{2, 4, 6}, count(6), count(6), count(6))} {
			for _, level := range append(wrongNumbers(), 0, len(n.Bounds)+1, 4, 5) {
				wantNoLevel(t, g, n, level)
			}
			for at, cells := range n.Cells {
				for _, cell := range append(wrongNumbers(), len(plainSizes(cells)), g.N, g.N+1) {
					wantNoCell(t, g, n, at+1, cell)
				}
			}
			for _, u := range append(wrongNumbers(), g.N) {
				for _, v := range append(wrongNumbers(), g.N, 0, g.N-1) {
					apart, e := Apart(g, n, u, v)
					wantNoNumber(t, "Apart", apart, e, api.ErrNone)
					apart, e = Apart(g, n, v, u)
					wantNoNumber(t, "Apart", apart, e, api.ErrNone)
				}
			}
		}
	}
}

// wantNoLevel asks for ErrLevel, whatever the cell is.
func wantNoLevel(t *testing.T, g api.Graph, n api.Nest, level int) {
	t.Helper()
	many, e := Many(g, n, level)
	wantNoNumber(t, "Many", many, e, api.ErrLevel)
	for _, cell := range append(wrongNumbers(), 0, 1) {
		l, e := Members(g, n, level, cell)
		wantNoList(t, "Members", l, e, api.ErrLevel)
		l, e = Children(g, n, level, cell)
		wantNoList(t, "Children", l, e, api.ErrLevel)
		p, e := Parent(g, n, level, cell)
		wantNoNumber(t, "Parent", p, e, api.ErrLevel)
	}
}

// wantNoCell asks for ErrCell of any level, those without children or a parent too.
func wantNoCell(t *testing.T, g api.Graph, n api.Nest, level, cell int) {
	t.Helper()
	l, e := Members(g, n, level, cell)
	wantNoList(t, "Members", l, e, api.ErrCell)
	l, e = Children(g, n, level, cell)
	wantNoList(t, "Children", l, e, api.ErrCell)
	p, e := Parent(g, n, level, cell)
	wantNoNumber(t, "Parent", p, e, api.ErrCell)
}

// Promise 11.2, R1, R5: what Make refuses, whatever stands behind it.
func TestMakeRefuses(t *testing.T) {
	g := way(5)
	many := make([]int, api.MaxItems+1)
	levels := [][]int{nil, {}, {1, 2, 3, 4, 5, 6}, {0, 0, 0, 0, 0, 0}, count(api.MaxItems), count(api.MaxItems + 1)}
	bounds := [][]int{
		{0}, {-1}, {math.MinInt}, {api.MaxVertices + 1}, {math.MaxInt}, {1, 1}, {2, 1}, {3, 2, 4}, {1, 2, 3, 4, 4}, {0, 1}, {1, 0}, {5, -5},
		{1, api.MaxVertices + 1}, {api.MaxVertices, api.MaxVertices}, {api.MaxVertices, api.MaxVertices + 1}, {1, 2, 3, 4, math.MaxInt},
	}
	centres := [][]int{{5}, {-1}, {0, 1, 2, 3, 4, 5}, {4, 4, math.MinInt}, {math.MaxInt, 0}, append(make([]int, api.MaxItems-1), 5)}
	long := [][]int{many, slices.Repeat([]int{-1}, api.MaxItems+1)}
	moves := wrongNumbers()
	anyCentres, anyMoves := slices.Concat([][]int{nil, {0}}, long, centres), append(moves, 0, 1)
	refused := func(name string, allBounds, allCentres [][]int, allMoves []int, want api.Errno) {
		t.Helper()
		for _, b := range allBounds {
			for _, c := range allCentres {
				for _, m := range allMoves {
					n, e := Make(g, b, c, m)
					wantNoNest(t, name, n, e, want)
				}
			}
		}
	}
	right := [][]int{{1}, {3, 5}, {1, 2, 3, 4, api.MaxVertices}}
	refused("levels", levels, anyCentres, anyMoves, api.ErrLevel)
	refused("bounds", bounds, anyCentres, anyMoves, api.ErrRange)
	refused("too many centres", right, long, anyMoves, api.ErrLong)
	refused("centres", right, centres, anyMoves, api.ErrNone)
	refused("moves", right, [][]int{nil, {0, 4}, many[1:]}, moves, api.ErrRange)
	for _, b := range right {
		for _, m := range []int{0, api.MaxItems} {
			if n, e := Make(g, b, many[1:], m); e != api.OK || len(n.Cells) != len(b) {
				t.Error(n, e)
			}
		}
	}
}

// R1, R2, R5: all calls answer what chapter 3's Check refuses, ahead of what else is wrong, and nothing beside it.
func TestWrongGraphs(t *testing.T) {
	for name, x := range map[string]struct {
		g    api.Graph
		want api.Errno
	}{
		"no vertex":           {api.Graph{}, api.ErrRange},
		"N below 0":           {api.Graph{N: math.MinInt}, api.ErrRange},
		"too many vertices":   {api.Graph{N: api.MaxVertices + 1}, api.ErrRange},
		"the greatest N":      {api.Graph{N: math.MaxInt}, api.ErrRange},
		"too many arcs":       {api.Graph{N: 2, Arcs: make([]api.Arc, api.MaxArcs+1)}, api.ErrLong},
		"an end too great":    {api.Graph{N: 2, Arcs: []api.Arc{{To: 1}, {To: 2}}}, api.ErrArc},
		"a beginning below 0": {api.Graph{N: 2, Arcs: []api.Arc{{From: -1}}}, api.ErrArc},
	} {
		for _, n := range []api.Nest{{}, nest([]int{1}, []int{0, 1}), nest([]int{2, 1}, []int{0, 1}, nil), nest([]int{3}), nest([]int{api.MaxVertices}, make([]int, api.MaxVertices+1))} {
			level, e := Check(x.g, n)
			wantLevel(t, name, level, e, 0, x.want)
			wantRefused(t, name, x.g, n, x.want)
		}
		for _, bounds := range [][]int{nil, {1, 1}, {1, 2}} {
			for _, centres := range [][]int{nil, {0}, {-1}, make([]int, api.MaxItems+1)} {
				for _, moves := range []int{-1, 0} {
					n, e := Make(x.g, bounds, centres, moves)
					wantNoNest(t, name, n, e, x.want)
				}
			}
		}
	}
}

// wantRefused asks all calls that take a nest for an error, whatever stands behind it.
func wantRefused(t *testing.T, name string, g api.Graph, n api.Nest, want api.Errno) {
	t.Helper()
	for _, at := range []int{math.MinInt, 0, 1, 2} {
		many, e := Many(g, n, at)
		wantNoNumber(t, name+": Many", many, e, want)
		apart, e := Apart(g, n, at, 0)
		wantNoNumber(t, name+": Apart", apart, e, want)
		for _, cell := range []int{-1, 0, math.MaxInt} {
			l, e := Members(g, n, at, cell)
			wantNoList(t, name+": Members", l, e, want)
			l, e = Children(g, n, at, cell)
			wantNoList(t, name+": Children", l, e, want)
			p, e := Parent(g, n, at, cell)
			wantNoNumber(t, name+": Parent", p, e, want)
		}
	}
}

// Promise 11.2: directions, weights and the order of arcs change nothing, nor do arcs that stand twice, nor the order of centres.
func TestArcsAlike(t *testing.T) {
	draw := noise()
	for n := 4; n < 40; n++ {
		g := drawn(draw, n, draw(4*n))
		h := api.Graph{N: n}
		for _, a := range slices.Backward(g.Arcs) {
			h.Arcs = append(h.Arcs, api.Arc{From: a.To, To: a.From, Weight: uint32(draw(99))})
			if draw(2) == 0 {
				h.Arcs = append(h.Arcs, a, a, api.Arc{From: a.To, To: a.To})
			}
		}
		bounds, centres := []int{1 + n/5, 2 + n/3, n + 3}, drawnList(draw, 1+draw(5), n)
		made, e := Make(g, bounds, centres, n)
		turned := append(slices.Clone(centres), centres...)
		slices.Reverse(turned)
		again, e2 := Make(h, bounds, turned, n)
		wantNest(t, "Make", again, max(e, e2), made)
	}
}

// R4: what is handed in stays as it was, spare room too, what lies there is not read, and answers are new memory.
func TestMemory(t *testing.T) {
	bad := api.Arc{From: -7, To: -7, Weight: 7}
	room := append(triangles().Arcs, bad, bad)
	g := api.Graph{N: 6, Arcs: room[:len(room)-2]}
	low, high := []int{0, 0, 0, 1, 1, 1, -9, 7}, []int{0, 0, 0, 0, 0, 0, 5, 5}
	cells, bounds, centres := [][]int{low[:6], high[:6], {9}, nil}, []int{3, 6, 2, -1}, []int{0, 4, -1, 9}
	n := api.Nest{Bounds: bounds[:2], Cells: cells[:2]}
	given := [][]int{low, high, bounds, centres, cells[2]}
	var before, answers [][]int
	for _, l := range given {
		before = append(before, slices.Clone(l))
	}
	arcsBefore := slices.Clone(room)
	var tables [][][]int
	for range 2 {
		for _, moves := range []int{0, 3} {
			made, e := Make(g, bounds[:2], centres[:2], moves)
			wantNest(t, "Make", made, e, n)
			answers = append(append(answers, made.Bounds), made.Cells...)
			tables = append(tables, made.Cells)
		}
		for _, cell := range []int{0, 1} {
			l, e := Members(g, n, 1, cell)
			wantList(t, "Members", l, e, 3*cell, 3*cell+1, 3*cell+2)
			answers = append(answers, l)
		}
		l, e := Members(g, n, 2, 0)
		wantList(t, "Members", l, e, 0, 1, 2, 3, 4, 5)
		m, e := Children(g, n, 2, 0)
		wantList(t, "Children", m, e, 0, 1)
		answers = append(answers, l, m)
		level, e := Check(g, n)
		wantLevel(t, "Check", level, e, 0, api.OK)
	}
	for i, l := range answers {
		for _, other := range slices.Concat(answers[:i], given) {
			if overlap(l, other) {
				t.Error("an answer shares memory")
			}
		}
		clear(l[:cap(l)])
	}
	for i, l := range tables {
		for _, other := range append(tables[:i:i], cells) {
			if overlap(l, other) {
				t.Error("an answer's list of levels shares memory")
			}
		}
	}
	if !slices.Equal(room, arcsBefore) || !slices.EqualFunc(given, before, slices.Equal) {
		t.Error("what was handed in is changed")
	}
	if &cells[0][0] != &low[0] || &cells[1][0] != &high[0] || &cells[2][0] != &given[4][0] || cells[3] != nil {
		t.Error("the list of levels that was handed in is changed")
	}
}

// R3: a list without a member may be nil or empty.
func TestEmptyLists(t *testing.T) {
	for _, none := range [][]api.Arc{nil, {}} {
		g := api.Graph{N: 3, Arcs: none}
		for _, centres := range [][]int{nil, {}} {
			n, e := Make(g, []int{2, 3}, centres, 4)
			wantNest(t, "Make", n, e, nest([]int{2, 3}, count(3), count(3)))
			level, e := Check(g, n)
			wantLevel(t, "Check", level, e, 0, api.OK)
		}
		for _, cells := range [][]int{nil, {}} {
			level, e := Check(g, nest([]int{2}, cells))
			wantLevel(t, "Check", level, e, 1, api.ErrLabel)
		}
	}
}

// R7: the same call tells the same, whatever was called ahead, and whatever room lies behind the lists.
func TestTellsTheSame(t *testing.T) {
	draw := noise()
	for range 40 {
		n := 4 + draw(60)
		g := drawn(draw, n, 3*n)
		bounds, centres, moves := []int{1 + n/6, 2 + n/3, n + 1}, drawnList(draw, draw(n), n), draw(n)
		made, e := Make(g, bounds, centres, moves)
		if e != api.OK {
			t.Fatal(e)
		}
		children, _ := Children(g, made, 2, 0)
		for range 5 {
			Make(drawn(draw, n, n), []int{n}, nil, n)
			h := api.Graph{N: n, Arcs: slices.Grow(slices.Clone(g.Arcs), 1+draw(9))}
			again, e := Make(h, slices.Grow(slices.Clone(bounds), 3), slices.Grow(slices.Clone(centres), 3), moves)
			wantNest(t, "Make", again, e, made)
			l, e := Children(h, again, 2, 0)
			wantList(t, "Children", l, e, children...)
		}
	}
}

// Promises 11.1 to 11.5, P1: graphs, bounds, centres and nests that are made up.
func FuzzNest(f *testing.F) {
	f.Add(6, 0, []byte{0, 1, 1, 2, 2, 0, 3, 4, 4, 5, 5, 3, 2, 3}, []byte{3, 6}, []byte{0}, []byte{0, 0, 0, 1, 1, 1, 0, 0, 0, 0, 0, 0})
	f.Add(3, 9, []byte{0, 1}, []byte{2, 3}, []byte{1, 1}, []byte{0, 0, 1, 0, 1, 1})
	f.Add(0, -1, []byte{255, 3}, []byte{255}, []byte{255}, []byte{255})
	f.Add(3, 2, []byte{0, 1, 7, 7}, []byte{1, 2, 3, 4, 5}, []byte{}, []byte{0, 1, 2, 0, 1, 2, 0, 1, 2, 0, 1, 2, 0, 1, 2})
	f.Fuzz(func(t *testing.T, n, moves int, ends, levels, middles, numbers []byte) {
		n %= 48
		g := api.Graph{N: n}
		for i := 0; i+1 < len(ends) && len(g.Arcs) < api.MaxArcs; i += 2 {
			g.Arcs = append(g.Arcs, api.Arc{From: int(ends[i]) % max(n, 1), To: int(ends[i+1]) % max(n, 1)})
		}
		bounds, centres, labels := signed(levels), signed(middles), signed(numbers)
		fuzzedMake(t, g, bounds, centres, moves)
		if n < 1 {
			return
		}
		x := api.Nest{Bounds: bounds, Cells: slices.Collect(slices.Chunk(labels, n))}
		wantChecked(t, g, x)
		if len(labels) >= n {
			x = nest([]int{n}, plainTidy(labels[:n]))
			for at := 2 * n; at <= len(labels) && len(x.Cells) < api.MaxLevels; at += n {
				x.Bounds = append(x.Bounds, n+len(x.Cells))
				x.Cells = append(x.Cells, plainTidy(labels[at-n:at]))
			}
			wantChecked(t, g, x)
			if _, e := plainCheck(g, x); e == api.OK {
				wantPlain(t, g, x)
			}
		}
		for at := range centres {
			centres[at] = (centres[at] & math.MaxInt) % n
		}
		slices.Sort(bounds)
		bounds = slices.Compact(bounds)
		fuzzedMake(t, g, bounds, centres, moves)
		fuzzedMake(t, g, bounds[:min(len(bounds), api.MaxLevels)], centres, moves&0xff)
	})
}

func signed(l []byte) []int {
	var numbers []int
	for _, b := range l {
		numbers = append(numbers, int(int8(b)))
	}
	return numbers
}

// fuzzedMake holds Make against its steps, or against the error that it must answer.
func fuzzedMake(t *testing.T, g api.Graph, bounds, centres []int, moves int) {
	n, e := Make(g, bounds, centres, moves)
	wrong := api.OK
	switch {
	case g.N < 1:
		wrong = api.ErrRange
	case len(bounds) < 1 || len(bounds) > api.MaxLevels:
		wrong = api.ErrLevel
	case slices.Min(bounds) < 1 || !slices.IsSorted(bounds) || len(slices.Compact(slices.Clone(bounds))) < len(bounds):
		wrong = api.ErrRange
	case len(centres) > api.MaxItems:
		wrong = api.ErrLong
	case len(centres) > 0 && (slices.Min(centres) < 0 || slices.Max(centres) >= g.N):
		wrong = api.ErrNone
	case moves < 0 || moves > api.MaxItems:
		wrong = api.ErrRange
	}
	if wrong != api.OK {
		wantNoNest(t, "Make", n, e, wrong)
		return
	}
	wantNest(t, "Make", n, e, steps(t, g, bounds, centres, moves))
	if level, e := plainCheck(g, n); e != api.OK {
		t.Fatal(level, e)
	}
	wantPlain(t, g, n)
}
