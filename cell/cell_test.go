package cell

import (
	"math"
	"slices"
	"testing"

	"flyover/api"
	"flyover/nest"
	"flyover/plain"
)

// Promises 12.1 to 12.3: the chapter's example.
func TestExample(t *testing.T) {
	g, n := three(), plain.Cells([]int{2}, []int{0, 0, 1})
	l, e := Boundary(g, n, 1, 0)
	wantList(t, "Boundary of 0", l, e, 0, 1)
	l, e = Boundary(g, n, 1, 1)
	wantList(t, "Boundary of 1", l, e, 2)
	l, e = Inner(g, n, 1, 0)
	wantList(t, "Inner", l, e, 0)
	l, e = Outer(g, n, 1)
	wantList(t, "Outer", l, e, 1, 2)
	at, e := Index(g, n, 1, 0, 1)
	wantNumber(t, "Index of 1", at, e, 1)
	at, e = Index(g, n, 1, 0, 2)
	wantNoNumber(t, "Index of 2", at, e, api.ErrNone)
	all, e := Stale(g, n, []int{0, 2})
	wantLists(t, "Stale", all, e, []int{0})
}

// Promises 12.1, 12.2: what is told by hand of three levels.
func TestLevels(t *testing.T) {
	g, n := ladder()
	for _, x := range []struct {
		level, cell              int
		boundary, inner, between []int
	}{
		{1, 0, []int{0}, []int{0, 1}, nil}, {1, 1, []int{1, 5}, []int{2, 3}, nil}, {1, 2, []int{3}, nil, nil}, {1, 3, []int{4}, []int{10}, nil}, {1, 4, []int{6}, []int{8}, nil},
		{2, 0, []int{0}, []int{0, 1}, nil}, {2, 1, []int{5}, []int{2, 3, 4, 10}, []int{4}}, {2, 2, []int{3, 6}, []int{5, 8}, []int{5}},
		{3, 0, []int{6}, []int{0, 1, 5, 6, 7, 8}, []int{6, 7}}, {3, 1, []int{5}, []int{2, 3, 4, 10}, nil},
	} {
		l, e := Boundary(g, n, x.level, x.cell)
		wantList(t, "Boundary", l, e, x.boundary...)
		for v := range g.N {
			place, e := Index(g, n, x.level, x.cell, v)
			if at := slices.Index(x.boundary, v); at < 0 {
				wantNoNumber(t, "Index", place, e, api.ErrNone)
			} else {
				wantNumber(t, "Index", place, e, at)
			}
		}
		l, e = Inner(g, n, x.level, x.cell)
		wantList(t, "Inner", l, e, x.inner...)
		if l, e = Between(g, n, x.level, x.cell); x.level == 1 {
			wantNothing(t, "Between", l, e, api.ErrLevel)
		} else {
			wantList(t, "Between", l, e, x.between...)
		}
	}
	for level, want := range [][]int{1: {4, 5, 6, 7, 9}, 2: {6, 7, 9}, 3: {9}} {
		if level > 0 {
			l, e := Outer(g, n, level)
			wantList(t, "Outer", l, e, want...)
		}
	}
}

// Promise 12.3: what is told by hand of three levels.
func TestStaleLevels(t *testing.T) {
	g, n := ladder()
	for _, x := range []struct {
		arcs []int
		want [][]int
	}{
		{nil, [][]int{nil, nil, nil}},
		{[]int{9}, [][]int{nil, nil, nil}},
		{[]int{9, 9, 6}, [][]int{nil, nil, {0}}},
		{[]int{5}, [][]int{nil, {2}, {0}}},
		{[]int{10, 8, 4}, [][]int{{3, 4}, {1, 2}, {0, 1}}},
		{[]int{4, 8, 10, 8, 4}, [][]int{{3, 4}, {1, 2}, {0, 1}}},
		{[]int{8, 3, 2, 1, 0}, [][]int{{0, 1, 4}, {0, 1, 2}, {0, 1}}},
		{plain.Count(11), [][]int{{0, 1, 3, 4}, {0, 1, 2}, {0, 1}}},
	} {
		all, e := Stale(g, n, x.arcs)
		wantLists(t, "Stale", all, e, x.want...)
	}
}

// Promises 12.1 to 12.3: all graphs of up to three vertices with all nests of up to two levels, and all sets of few arcs.
func TestAll(t *testing.T) {
	for n := 1; n < 4; n++ {
		for _, x := range plain.Nests(n) {
			for _, g := range allGraphs(n) {
				wantPlain(t, g, x)
				for set := range 1 << min(len(g.Arcs), 4) {
					var arcs []int
					for id := range g.Arcs {
						if set>>id&1 == 1 {
							arcs = append(arcs, id)
						}
					}
					wantStale(t, g, x, arcs)
				}
			}
		}
	}
}

// Promises 12.1 to 12.3: of nests that were drawn and of nests that were made.
func TestAgainstPlain(t *testing.T) {
	draw := plain.Noise()
	for n := 1; n < 30; n++ {
		for range 4 {
			g := drawn(draw, n, draw(3*n+1))
			wantPlain(t, g, plain.Nest(draw, n, 1+draw(api.MaxLevels)))
			made, e := nest.Make(g, []int{1 + n/4, 2 + n/2, n + 2}, []int{draw(n), draw(n)}, draw(5))
			wantOK(t, "Make", e)
			wantPlain(t, g, made)
			for range 6 {
				arcs := drawnList(draw, 1+draw(4), len(g.Arcs))
				wantStale(t, g, made, arcs)
				wantStale(t, g, made, append(arcs, arcs...))
			}
		}
	}
}

// wantPlain asks all calls of all levels, cells and vertices.
func wantPlain(t *testing.T, g api.Graph, n api.Nest) {
	t.Helper()
	for at := range n.Cells {
		level := at + 1
		l, e := Outer(g, n, level)
		wantList(t, "Outer", l, e, plainOuter(g, n, level)...)
		for cell := range plainMany(n, level) {
			wantCell(t, g, n, level, cell)
		}
	}
	wantStale(t, g, n, nil)
	wantStale(t, g, n, plain.Count(len(g.Arcs)))
	for id := range g.Arcs {
		wantStale(t, g, n, []int{id})
	}
	if t.Failed() {
		t.Fatal(g, n)
	}
}

func wantCell(t *testing.T, g api.Graph, n api.Nest, level, cell int) {
	t.Helper()
	boundary := plainBoundary(g, n, level, cell)
	l, e := Boundary(g, n, level, cell)
	wantList(t, "Boundary", l, e, boundary...)
	for v := -1; v <= min(g.N, 30); v++ {
		place, e := Index(g, n, level, cell, v)
		if at := slices.Index(boundary, v); at < 0 {
			wantNoNumber(t, "Index", place, e, api.ErrNone)
		} else {
			wantNumber(t, "Index", place, e, at)
		}
	}
	l, e = Inner(g, n, level, cell)
	wantList(t, "Inner", l, e, plainInner(g, n, level, cell)...)
	if l, e = Between(g, n, level, cell); level == 1 {
		wantNothing(t, "Between", l, e, api.ErrLevel)
	} else {
		wantList(t, "Between", l, e, plainBetween(g, n, level, cell)...)
	}
}

func wantStale(t *testing.T, g api.Graph, n api.Nest, arcs []int) {
	t.Helper()
	all, e := Stale(g, n, arcs)
	wantLists(t, "Stale", all, e, plainStale(g, n, arcs)...)
}

// Promise 12.4: what follows, from the answers alone.
func TestFollows(t *testing.T) {
	draw := plain.Noise()
	for n := 1; n < 30; n++ {
		for range 4 {
			g := drawn(draw, n, draw(4*n+1))
			x := plain.Nest(draw, n, 1+draw(api.MaxLevels))
			for at := range x.Cells {
				wantOuterJoinsBoundaries(t, g, x, at+1)
				for cell := range plainMany(x, at+1) {
					wantAbove(t, g, x, at+1, cell)
					if at > 0 {
						wantParted(t, g, x, at+1, cell)
					}
				}
			}
			if t.Failed() {
				t.Fatal(g, x)
			}
		}
	}
}

// wantOuterJoinsBoundaries asks that each arc whose ends are of unlike cells joins two boundary vertices.
func wantOuterJoinsBoundaries(t *testing.T, g api.Graph, n api.Nest, level int) {
	t.Helper()
	outer, e := Outer(g, n, level)
	wantOK(t, "Outer", e)
	for _, id := range outer {
		for _, v := range []int{g.Arcs[id].From, g.Arcs[id].To} {
			_, e := Index(g, n, level, n.Cells[level-1][v], v)
			wantOK(t, "an end of an arc between cells", e)
		}
	}
}

// wantAbove asks that the arcs inside of a cell are inside of the one above, and that a boundary vertex of a cell is one of its child.
func wantAbove(t *testing.T, g api.Graph, n api.Nest, level, cell int) {
	t.Helper()
	if parent, e := nest.Parent(g, n, level, cell); e == api.OK {
		inner, e := Inner(g, n, level, cell)
		above, e2 := Inner(g, n, level+1, parent)
		wantOK(t, "Inner", e, e2)
		for _, id := range inner {
			if !slices.Contains(above, id) {
				t.Error(level, cell, id)
			}
		}
	}
	boundary, e := Boundary(g, n, level, cell)
	wantOK(t, "Boundary", e)
	for _, v := range boundary {
		if level > 1 {
			_, e := Index(g, n, level-1, n.Cells[level-2][v], v)
			wantOK(t, "a boundary vertex of the child", e)
		}
	}
}

// wantParted asks that the arcs inside of a cell are those inside of its children and those between, each once.
func wantParted(t *testing.T, g api.Graph, n api.Nest, level, cell int) {
	t.Helper()
	all, e := Between(g, n, level, cell)
	children, e2 := nest.Children(g, n, level, cell)
	wantOK(t, "Between and Children", e, e2)
	for _, child := range children {
		inner, e := Inner(g, n, level-1, child)
		wantOK(t, "Inner of a child", e)
		all = append(all, inner...)
	}
	slices.Sort(all)
	inner, e := Inner(g, n, level, cell)
	wantList(t, "Inner", inner, e, all...)
}

// Promises 12.1 to 12.3, P1: the greatest graphs, and as many arcs as there may be.
func TestGreatest(t *testing.T) {
	draw := plain.Noise()
	for _, g := range greatGraphs() {
		single := plain.Cells([]int{1, 2, 3, 4, 1024}, plain.Count(g.N), plain.Count(g.N), plain.Count(g.N), plain.Count(g.N), make([]int, g.N))
		for _, n := range []api.Nest{single, plain.Nest(draw, g.N, 5), plain.Nest(draw, g.N, 1)} {
			for at := range n.Cells {
				many := plainMany(n, at+1)
				wantCell(t, g, n, at+1, 0)
				wantCell(t, g, n, at+1, many-1)
				wantCell(t, g, n, at+1, draw(many))
			}
			l, e := Outer(g, n, len(n.Cells))
			wantList(t, "Outer", l, e, plainOuter(g, n, len(n.Cells))...)
			wantGreatStale(t, g, n, drawnList(draw, 1+draw(9), len(g.Arcs)))
			wantGreatStale(t, g, n, drawnList(draw, api.MaxItems, len(g.Arcs)))
			if t.Failed() {
				t.FailNow()
			}
		}
	}
}

// wantGreatStale takes for each arc the cell of both its ends.
func wantGreatStale(t *testing.T, g api.Graph, n api.Nest, arcs []int) {
	t.Helper()
	want := make([][]int, len(n.Cells))
	for at, cells := range n.Cells {
		for _, id := range arcs {
			if a := g.Arcs[id]; cells[a.From] == cells[a.To] {
				want[at] = append(want[at], cells[a.To])
			}
		}
		slices.Sort(want[at])
		want[at] = slices.Compact(want[at])
	}
	all, e := Stale(g, n, arcs)
	wantLists(t, "Stale", all, e, want...)
}

// Promises 12.1, 12.2, R1, R2, R5: levels, cells and vertices that there are not.
func TestWrongPlaces(t *testing.T) {
	g, three := ladder()
	for _, n := range []api.Nest{three, plain.Cells([]int{1}, plain.Count(8)), plain.Cells([]int{3, 8}, three.Cells[0], make([]int, 8))} {
		for _, level := range append(plain.WrongNumbers(), 0, len(n.Bounds)+1, 5, 6) {
			l, e := Outer(g, n, level)
			wantNothing(t, "Outer", l, e, api.ErrLevel)
			for _, cell := range append(plain.WrongNumbers(), 0, 1) {
				wantRefusedPlace(t, g, n, level, cell, api.ErrLevel)
			}
		}
		for at := range n.Cells {
			for _, cell := range append(plain.WrongNumbers(), plainMany(n, at+1), g.N) {
				wantRefusedPlace(t, g, n, at+1, cell, api.ErrCell)
			}
			for _, v := range append(plain.WrongNumbers(), g.N) {
				place, e := Index(g, n, at+1, 0, v)
				wantNoNumber(t, "Index", place, e, api.ErrNone)
			}
		}
	}
}

// wantRefusedPlace asks the calls that take a level and a cell for an error: Between of the level 1 too, and Index whatever the vertex is.
func wantRefusedPlace(t *testing.T, g api.Graph, n api.Nest, level, cell int, want api.Errno) {
	t.Helper()
	l, e := Boundary(g, n, level, cell)
	wantNothing(t, "Boundary", l, e, want)
	l, e = Inner(g, n, level, cell)
	wantNothing(t, "Inner", l, e, want)
	l, e = Between(g, n, level, cell)
	wantNothing(t, "Between", l, e, want)
	for _, v := range append(plain.WrongNumbers(), 0, 1) {
		place, e := Index(g, n, level, cell, v)
		wantNoNumber(t, "Index", place, e, want)
	}
}

// Promise 12.3, R1, R5: arcs that there are not, and too many of them, whatever they are.
func TestStaleRefuses(t *testing.T) {
	g, n := ladder()
	for _, wrong := range append(plain.WrongNumbers(), len(g.Arcs)) {
		for _, arcs := range [][]int{{wrong}, {0, 1, wrong}, {wrong, 0}, {wrong, wrong}, append(make([]int, api.MaxItems-1), wrong)} {
			all, e := Stale(g, n, arcs)
			wantNothing(t, "an arc that is none", all, e, api.ErrNone)
			all, e = Stale(api.Graph{N: 8}, n, arcs)
			wantNothing(t, "no arcs at all", all, e, api.ErrNone)
		}
		all, e := Stale(g, n, slices.Repeat([]int{wrong}, api.MaxItems+1))
		wantNothing(t, "too many arcs that are none", all, e, api.ErrLong)
	}
	all, e := Stale(g, n, make([]int, api.MaxItems+1))
	wantNothing(t, "too many arcs", all, e, api.ErrLong)
	all, e = Stale(g, n, make([]int, api.MaxItems))
	wantLists(t, "as many as there may be", all, e, []int{0}, []int{0}, []int{0})
}

// R1, R2, R5: all calls answer what chapter 3's Check refuses, then what chapter 11's Check refuses, ahead of what else is wrong.
func TestWrongGraphsAndNests(t *testing.T) {
	for _, x := range append(plain.WrongGraphs(), plain.WrongNests()...) {
		wantRefused(t, x.G, x.N, x.Want)
	}
}

// wantRefused asks all calls for an error, whatever stands behind the nest.
func wantRefused(t *testing.T, g api.Graph, n api.Nest, want api.Errno) {
	t.Helper()
	for _, level := range []int{math.MinInt, 0, 1, 2, math.MaxInt} {
		l, e := Outer(g, n, level)
		wantNothing(t, "Outer", l, e, want)
		for _, cell := range []int{-1, 0, 1, math.MaxInt} {
			wantRefusedPlace(t, g, n, level, cell, want)
		}
	}
	for _, arcs := range [][]int{nil, {0}, {-1}, {math.MaxInt}, make([]int, api.MaxItems+1)} {
		all, e := Stale(g, n, arcs)
		wantNothing(t, "Stale", all, e, want)
	}
}

// answers are all lists that the calls tell of a level and a cell, and of arcs.
func answers(t *testing.T, g api.Graph, n api.Nest, level, cell int, arcs []int) (lists [][]int, all [][]int) {
	t.Helper()
	boundary, e := Boundary(g, n, level, cell)
	inner, e2 := Inner(g, n, level, cell)
	outer, e3 := Outer(g, n, level)
	all, e4 := Stale(g, n, arcs)
	wantOK(t, "answers", e, e2, e3, e4)
	lists = append([][]int{boundary, inner, outer}, all...)
	if level > 1 {
		between, e := Between(g, n, level, cell)
		wantOK(t, "Between", e)
		lists = append(lists, between)
	}
	return lists, all
}

// The chapter's Ways: nothing can be put behind a list into its memory.
func TestListsAreCut(t *testing.T) {
	draw := plain.Noise()
	for n := 1; n < 60; n++ {
		g := drawn(draw, n, draw(5*n))
		x := plain.Nest(draw, n, 1+draw(api.MaxLevels))
		level := 1 + draw(len(x.Cells))
		lists, all := answers(t, g, x, level, draw(plainMany(x, level)), drawnList(draw, draw(9), len(g.Arcs)))
		for _, l := range lists {
			if cap(l) != len(l) {
				t.Error("spare room behind", l)
			}
		}
		if cap(all) != len(all) {
			t.Error("spare room behind the list of levels")
		}
	}
}

// R4: what is handed in stays as it was, spare room too, what lies there is not read, and answers are new memory.
func TestMemory(t *testing.T) {
	bad := api.Arc{From: -7, To: -7, Weight: 7}
	g, n := ladder()
	room := append(g.Arcs, bad, bad)
	g.Arcs = room[:len(room)-2]
	given := [][]int{append(n.Bounds, -1, 9), {8, 1, 8, -1, 99}}
	for _, l := range n.Cells {
		given = append(given, append(l, -9, 7))
	}
	table := [][]int{given[2][:8], given[3][:8], given[4][:8], {9}, nil}
	n = api.Nest{Bounds: given[0][:3], Cells: table[:3]}
	arcsBefore, tableBefore := slices.Clone(room), slices.Clone(table)
	var before, lists [][]int
	for _, l := range given {
		before = append(before, slices.Clone(l))
	}
	var tables [][][]int
	for range 2 {
		for level := 1; level <= 3; level++ {
			l, all := answers(t, g, n, level, 1, given[1][:3])
			lists, tables = append(lists, l...), append(tables, all)
			wantPlain(t, g, n)
		}
	}
	for i, l := range lists {
		for _, other := range slices.Concat(lists[:i], given) {
			if overlap(l, other) {
				t.Error("an answer shares memory")
			}
		}
		if overlap(l, room) {
			t.Error("an answer shares memory with the arcs")
		}
	}
	for i, l := range tables {
		for _, other := range append(tables[:i:i], table) {
			if overlap(l, other) {
				t.Error("an answer's list of levels shares memory")
			}
		}
	}
	for _, l := range lists {
		clear(l[:cap(l)])
	}
	if !slices.Equal(room, arcsBefore) || !slices.EqualFunc(given, before, slices.Equal) {
		t.Error("what was handed in is changed")
	}
	for at, l := range table {
		if len(l) != len(tableBefore[at]) || len(l) > 0 && &l[0] != &tableBefore[at][0] {
			t.Error("the list of levels that was handed in is changed")
		}
	}
}

// R3: a list without a member may be nil or empty.
func TestEmptyLists(t *testing.T) {
	n := plain.Cells([]int{2, 3}, []int{0, 0, 1}, []int{0, 0, 0})
	for _, none := range [][]api.Arc{nil, {}} {
		for _, arcs := range [][]int{nil, {}} {
			g := api.Graph{N: 3, Arcs: none}
			wantPlain(t, g, n)
			all, e := Stale(g, n, arcs)
			wantLists(t, "Stale", all, e, nil, nil)
			all, e = Stale(three(), n, arcs)
			wantLists(t, "Stale", all, e, nil, nil)
		}
		wantRefused(t, three(), plain.Cells([]int{2}, nil), api.ErrLabel)
		wantRefused(t, three(), plain.Cells([]int{2}, []int{}), api.ErrLabel)
	}
}

// R7: the same call tells the same, whatever was called ahead, and whatever room lies behind the lists.
func TestTellsTheSame(t *testing.T) {
	draw := plain.Noise()
	for range 40 {
		n := 4 + draw(60)
		g, x := drawn(draw, n, 3*n), plain.Nest(draw, n, 3)
		arcs, cell := drawnList(draw, 5, 3*n), draw(plainMany(x, 2))
		first, _ := answers(t, g, x, 2, cell, arcs)
		for range 5 {
			answers(t, drawn(draw, n, n), plain.Nest(draw, n, 2), 2, 0, []int{draw(n)})
			h := api.Graph{N: n, Arcs: slices.Grow(slices.Clone(g.Arcs), 1+draw(9))}
			again, _ := answers(t, h, x, 2, cell, slices.Grow(slices.Clone(arcs), 3))
			wantLists(t, "the same again", again, api.OK, first...)
		}
	}
}

// Promises 12.1 to 12.4, P1: graphs, nests and places that are made up.
func FuzzCell(f *testing.F) {
	f.Add(3, 1, 0, []byte{0, 1, 1, 2, 0, 2}, []byte{0, 0, 1}, []byte{0, 2})
	f.Add(4, 2, 0, []byte{0, 1, 1, 2, 0, 2, 3, 3, 2, 3}, []byte{0, 0, 1, 2, 0, 0, 0, 1}, []byte{0, 2, 4})
	f.Add(0, -1, 9, []byte{255, 3}, []byte{255}, []byte{255})
	f.Add(2, 5, -1, []byte{}, []byte{0, 1, 0, 1, 0, 1, 0, 1, 0, 0}, []byte{})
	f.Fuzz(func(t *testing.T, n, level, cell int, vertices, numbers, ids []byte) {
		n %= 32
		g := api.Graph{N: n}
		for i := 0; i+1 < len(vertices) && len(g.Arcs) < 200; i += 2 {
			g.Arcs = append(g.Arcs, api.Arc{From: int(vertices[i]) % max(n, 1), To: int(vertices[i+1]) % max(n, 1)})
		}
		var x api.Nest
		for at := n; n > 0 && at <= len(numbers) && at <= api.MaxLevels*n; at += n {
			labels := make([]int, n)
			for v := range labels {
				labels[v] = int(numbers[at-n+v])
			}
			x.Bounds, x.Cells = append(x.Bounds, n+len(x.Bounds)), append(x.Cells, plain.Tidy(labels))
		}
		var arcs []int
		for _, id := range ids {
			arcs = append(arcs, int(int8(id)))
		}
		fuzzed(t, g, x, level, cell, arcs)
	})
}

// fuzzed holds all calls against the plain readings, or against the error that they must answer.
func fuzzed(t *testing.T, g api.Graph, n api.Nest, level, cell int, arcs []int) {
	if _, e := nest.Check(g, n); e != api.OK {
		wantRefused(t, g, n, e)
		return
	}
	wantPlain(t, g, n)
	switch {
	case level < 1 || level > len(n.Cells):
		wantRefusedPlace(t, g, n, level, cell, api.ErrLevel)
	case cell < 0 || cell >= plainMany(n, level):
		wantRefusedPlace(t, g, n, level, cell, api.ErrCell)
	default:
		wantAbove(t, g, n, level, cell)
		wantOuterJoinsBoundaries(t, g, n, level)
	}
	all, e := Stale(g, n, arcs)
	switch {
	case len(arcs) > api.MaxItems:
		wantNothing(t, "Stale", all, e, api.ErrLong)
	case len(arcs) > 0 && (slices.Min(arcs) < 0 || slices.Max(arcs) >= len(g.Arcs)):
		wantNothing(t, "Stale", all, e, api.ErrNone)
	default:
		wantLists(t, "Stale", all, e, plainStale(g, n, arcs)...)
	}
}
