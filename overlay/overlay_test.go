package overlay

import (
	"math"
	"slices"
	"testing"

	"flyover/api"
	"flyover/clique"
	"flyover/nest"
	"flyover/plain"
)

// Promises 14.1 to 14.4: the chapter's example.
func TestExample(t *testing.T) {
	g, n := plain.Three()
	last := api.Matrix{Level: 1, Cell: 1, D: []api.Dist{0}}
	o, e := All(g, n, 0)
	wantOverlay(t, "All", g, n, o, e, [][]api.Matrix{{{Level: 1, D: []api.Dist{0, 5, api.Inf, 0}}, last}})
	g.Arcs[2].Weight = 3
	r, many, e := Renew(g, n, o, []int{2}, 1)
	wantOverlay(t, "Renew by the arc 2", g, n, r, e, o)
	if many != 0 {
		t.Error("none is made anew:", many)
	}
	g.Arcs[0].Weight = 9
	r, many, e = Renew(g, n, o, []int{0}, 1)
	wantOverlay(t, "Renew by the arc 0", g, n, r, e, [][]api.Matrix{{{Level: 1, Epoch: 1, D: []api.Dist{0, 9, api.Inf, 0}}, last}})
	if many != 1 {
		t.Error("one is made anew:", many)
	}
}

// Promises 14.1, 14.3: what is told by hand of three levels.
func TestLevels(t *testing.T) {
	const no = api.Inf
	g, n := plain.Rounds()
	alone := []api.Dist{0}
	o, e := All(g, n, 4)
	wantOverlay(t, "All", g, n, o, e, [][]api.Matrix{
		{{Level: 1, Cell: 0, Epoch: 4, D: []api.Dist{0, 2, 9, 0}}, {Level: 1, Cell: 1, Epoch: 4, D: []api.Dist{0, 4, no, 0}}, {Level: 1, Cell: 2, Epoch: 4, D: alone}, {Level: 1, Cell: 3, Epoch: 4, D: alone}},
		{{Level: 2, Cell: 0, Epoch: 4, D: []api.Dist{0, 2, 6, 7, 0, 4, 3, 5, 0}}, {Level: 2, Cell: 1, Epoch: 4, D: alone}, {Level: 2, Cell: 2, Epoch: 4, D: alone}},
		{{Level: 3, Cell: 0, Epoch: 4, D: []api.Dist{0, 7, 8, 0}}, {Level: 3, Cell: 1, Epoch: 4, D: alone}},
	})
	for _, x := range []struct {
		arcs []int
		want [][]int
	}{
		{nil, [][]int{{}, {}, {}}}, {[]int{0}, [][]int{{0}, {0}, {0}}}, {[]int{9}, [][]int{{0}, {0}, {0}}}, {[]int{3}, [][]int{{1}, {0}, {0}}}, {[]int{2}, [][]int{{}, {0}, {0}}}, {[]int{10}, [][]int{{}, {0}, {0}}},
		{[]int{5}, [][]int{{}, {}, {0}}}, {[]int{6}, [][]int{{}, {}, {0}}}, {[]int{7}, [][]int{{}, {}, {}}}, {[]int{8, 7, 8}, [][]int{{}, {}, {}}}, {[]int{3, 0, 3, 1}, [][]int{{0, 1}, {0}, {0}}},
	} {
		h := api.Graph{N: g.N, Arcs: slices.Clone(g.Arcs)}
		for _, id := range x.arcs {
			h.Arcs[id].Weight = 1
		}
		want, all := plain.Copied(o), 0
		for at, cells := range x.want {
			for _, cell := range cells {
				want[at][cell].Epoch, want[at][cell].D = 6, plain.Whole(h, n, at+1, cell)
				all++
			}
		}
		r, many, e := Renew(h, n, o, x.arcs, 6)
		wantOverlay(t, "Renew", h, n, r, e, want)
		if many != all {
			t.Error(x.arcs, many, all)
		}
	}
}

// wantPlain holds All and Renew against the plain readings: of an overlay that was right under g's weights, and of one that was not, after some of the weights or all are h's.
func wantPlain(t *testing.T, draw func(int) int, g, h api.Graph, n api.Nest, epoch int) {
	t.Helper()
	o, e := All(g, n, epoch)
	wantOverlay(t, "All", g, n, o, e, plain.Overlay(g, n, epoch))
	for _, old := range [][][]api.Matrix{o, plain.Shaken(draw, o, epoch)} {
		for _, many := range []int{0, 1, 2, 2 * len(g.Arcs)} {
			var arcs []int
			for len(g.Arcs) > 0 && len(arcs) < many {
				arcs = append(arcs, draw(len(g.Arcs)))
			}
			next := min(epoch+draw(2), api.MaxTicks)
			want, all := plainRenew(h, n, old, arcs, next)
			r, made, e := Renew(h, n, old, arcs, next)
			wantOverlay(t, "Renew", h, n, r, e, want)
			if made != all {
				t.Error("how many are made anew", made, all)
			}
		}
	}
	if t.Failed() {
		t.Fatal(g, h, n)
	}
}

// Promises 14.1 to 14.4: all graphs of up to three vertices with all nests of up to two levels.
func TestAll(t *testing.T) {
	draw := plain.Noise()
	for n := 1; n < 4; n++ {
		for _, x := range plain.Nests(n) {
			for _, g := range plain.Graphs(draw, n) {
				wantPlain(t, draw, g, plain.Reweighed(draw, g), x, draw(5))
			}
		}
	}
}

// Promises 14.1 to 14.4, W5: of nests that were drawn and of nests that were made.
func TestAgainstPlain(t *testing.T) {
	draw := plain.Noise()
	for n := 1; n < 22; n++ {
		for _, most := range []int{0, 3, 1 << 20} {
			g := plain.Graph(draw, n, draw(4*n+1), most)
			h := plain.Reweighed(draw, g)
			wantPlain(t, draw, g, h, plain.Nest(draw, n, 1+draw(api.MaxLevels)), draw(1000))
			made, e := nest.Make(g, []int{1 + n/4, 2 + n/2, n + 2}, []int{draw(n), draw(n)}, draw(5))
			wantOK(t, "Make", e)
			wantPlain(t, draw, g, h, made, api.MaxTicks)
		}
	}
}

// Promise 14.5: change after change, what is made anew is right, and all else stays as it was; from the answers alone.
func TestFollows(t *testing.T) {
	draw := plain.Noise()
	for n := 1; n < 40; n++ {
		g, x := plain.Graph(draw, n, 1+draw(4*n), 50), plain.Nest(draw, n, 1+draw(api.MaxLevels))
		o, e := All(g, x, 0)
		wantOK(t, "All", e)
		for epoch := 1; epoch < 8; epoch++ {
			var arcs []int
			for range draw(4) {
				id := draw(len(g.Arcs))
				arcs = append(arcs, id)
				g.Arcs[id].Weight = uint32(draw(100))
			}
			before := o
			var many int
			o, many, e = Renew(g, x, before, arcs, epoch)
			wantOK(t, "Renew", e)
			wantFew(t, g, x, before, o, arcs, many, epoch)
		}
	}
}

// wantFew asks that the overlay is right, and that the matrices that were made anew are those of the cells in which the arcs lie.
func wantFew(t *testing.T, g api.Graph, n api.Nest, before, after [][]api.Matrix, arcs []int, many, epoch int) {
	t.Helper()
	right, e := All(g, n, epoch)
	wantOK(t, "All", e)
	anew := 0
	for at, l := range after {
		for cell, m := range l {
			if !slices.Equal(m.D, right[at][cell].D) {
				t.Fatal("not right", g, n, m, right[at][cell])
			}
			if m.Epoch == epoch {
				anew++
			} else if !sameMatrix(m, before[at][cell]) {
				t.Fatal("changed", g, n, m, before[at][cell])
			}
			inside := func(id int) bool {
				return n.Cells[at][g.Arcs[id].From] == cell && n.Cells[at][g.Arcs[id].To] == cell
			}
			if slices.ContainsFunc(arcs, inside) != (m.Epoch == epoch) {
				t.Fatal("stale or not", g, n, arcs, m)
			}
		}
	}
	if anew != many || many > len(arcs)*len(n.Cells) {
		t.Fatal("how many", many, anew)
	}
}

// Promise 14.5: changes of arcs between two cells of the last level make no cell stale.
func TestBetweenLastCells(t *testing.T) {
	draw := plain.Noise()
	for n := 2; n < 30; n++ {
		g, x := plain.Graph(draw, n, 5*n, 9), plain.Nest(draw, n, 1+draw(3))
		last := x.Cells[len(x.Cells)-1]
		o, e := All(g, x, 2)
		wantOK(t, "All", e)
		var arcs []int
		for id, a := range g.Arcs {
			if last[a.From] != last[a.To] {
				g.Arcs[id].Weight += 3
				arcs = append(arcs, id)
			}
		}
		r, many, e := Renew(g, x, o, arcs, 3)
		wantOverlay(t, "Renew", g, x, r, e, o)
		if many != 0 {
			t.Error(g, x, many)
		}
	}
}

// Promises 14.1 to 14.5, P1: the greatest graphs, with as many levels as there may be, and with cells of one vertex each.
func TestGreatest(t *testing.T) {
	draw := plain.Noise()
	for _, bounds := range [][]int{{16, 64, 128, 256, 1024}, {1, 700}} {
		g := plain.Great(draw)
		x, e := nest.Make(g, bounds, nil, 0)
		wantOK(t, "Make", e)
		o, e := All(g, x, api.MaxTicks-1)
		wantOK(t, "All", e, Check(g, x, o))
		wantWhole(t, g, x, o)
		arcs := make([]int, api.MaxItems)
		for at := range arcs {
			arcs[at] = draw(50)
			g.Arcs[arcs[at]].Weight = uint32(draw(1000))
		}
		r, many, e := Renew(g, x, o, arcs, api.MaxTicks)
		wantOK(t, "Renew", e)
		wantWhole(t, g, x, r)
		late, e := Late(g, x, r)
		wantOK(t, "Late", e)
		if late != api.MaxTicks || many == 0 {
			t.Error(late, many)
		}
	}
}

// wantWhole asks for matrices that layer 13 makes without those below.
func wantWhole(t *testing.T, g api.Graph, n api.Nest, o [][]api.Matrix) {
	t.Helper()
	for at, l := range o {
		if len(l) != plain.Many(n, at+1) {
			t.Fatal("how many", at, len(l))
		}
		for cell, m := range l {
			if whole, e := clique.Whole(g, n, at+1, cell, m.Epoch); e != api.OK || !sameMatrix(m, whole) {
				t.Fatal("not right", at+1, cell, e)
			}
		}
	}
}

// Promises 14.1 to 14.4, P1: the greatest graphs of other shapes, and a matrix of more members than api.MaxItems.
func TestGreatestOfOtherShapes(t *testing.T) {
	draw := plain.Noise()
	for _, g := range plain.Shapes(draw) {
		n := plain.Lopsided(g.N)
		o, e := All(g, n, 0)
		wantOK(t, "All", e, Check(g, n, o))
		r, many, e := Renew(g, n, o, plain.Count(len(g.Arcs)), 0)
		wantOK(t, "Renew", e)
		if !sameOverlay(o, r) || many == 0 && len(g.Arcs) > 0 || many > 3 {
			t.Error("the same weights", many)
		}
		wantWhole(t, g, n, r)
	}
	star := plain.Star(draw)
	n := plain.Lopsided(star.N)
	o, _ := All(star, n, 0)
	if len(o[0][1].D) != (api.MaxVertices-1)*(api.MaxVertices-1) {
		t.Error(len(o[0][1].D))
	}
	o[0][1].D = o[0][1].D[1:]
	wantErrno(t, "one member less", Check(star, n, o), api.ErrMatrix)
}

// Promises 14.2 to 14.4, R1, R5: what is no overlay, ahead of arcs and epochs that are wrong.
func TestWrongOverlays(t *testing.T) {
	g, n := plain.Rounds()
	wantErrno(t, "right", Check(g, n, plain.Overlay(g, n, 3)), api.OK)
	for _, o := range plain.WrongOverlays(g, n) {
		wantErrno(t, "Check", Check(g, n, o), api.ErrMatrix)
		late, e := Late(g, n, o)
		wantNone(t, "Late", nil, late, e, api.ErrMatrix)
		for _, arcs := range [][]int{nil, {0}, {-1}, make([]int, api.MaxItems+1)} {
			for _, epoch := range []int{-1, 3, api.MaxTicks + 1} {
				r, many, e := Renew(g, n, o, arcs, epoch)
				wantNone(t, "Renew", r, many, e, api.ErrMatrix)
			}
		}
	}
}

// Promises 14.2 to 14.4: whether distances are right is not asked, nor whether epochs go together; and each matrix is one that chapter 13 takes.
func TestCheckTakes(t *testing.T) {
	draw := plain.Noise()
	for n := 1; n < 20; n++ {
		g, x := plain.Graph(draw, n, draw(4*n), 9), plain.Nest(draw, n, 1+draw(api.MaxLevels))
		for _, most := range []int{0, 5, api.MaxTicks} {
			o := plain.Shaken(draw, plain.Overlay(g, x, 0), most)
			wantErrno(t, "any distances", Check(g, x, o), api.OK)
			if late, e := Late(g, x, o); e != api.OK || late != plainLate(o) {
				t.Error("Late", late, e)
			}
			at := draw(len(o))
			cell := draw(len(o[at]))
			m := &o[at][cell]
			if m.D = make([]api.Dist, draw(10)); clique.Check(g, x, *m) != Check(g, x, o) {
				t.Error("chapter 13 says otherwise", g, x, *m)
			}
		}
	}
}

// Promise 14.4: the greatest epoch, wherever it stands.
func TestLate(t *testing.T) {
	g, n := plain.Rounds()
	o := plain.Overlay(g, n, 0)
	for at := range o {
		for cell := range o[at] {
			for _, epoch := range []int{0, 1, 77, api.MaxTicks} {
				o[at][cell].Epoch = epoch
				if late, e := Late(g, n, o); e != api.OK || late != epoch {
					t.Error(at, cell, late, e)
				}
			}
			o[at][cell].Epoch = 0
		}
	}
}

// Promises 14.1, 14.3, R5: epochs from the least to the greatest, others, and those below a matrix's own, wherever it stands.
func TestEpochs(t *testing.T) {
	g, n := plain.Rounds()
	for _, epoch := range []int{0, 1, api.MaxTicks - 1, api.MaxTicks} {
		o, e := All(g, n, epoch)
		wantOverlay(t, "All", g, n, o, e, plain.Overlay(g, n, epoch))
		r, many, e := Renew(g, n, plain.Overlay(g, n, 0), plain.Count(len(g.Arcs)), epoch)
		want, _ := plainRenew(g, n, plain.Overlay(g, n, 0), plain.Count(len(g.Arcs)), epoch)
		wantOverlay(t, "Renew", g, n, r, e, want)
		if many != 4 {
			t.Error("how many", many)
		}
	}
	for _, epoch := range plain.WrongEpochs() {
		o, e := All(g, n, epoch)
		wantNone(t, "All", o, 0, e, api.ErrRange)
		for _, arcs := range [][]int{nil, {0}, {7}} {
			r, many, e := Renew(g, n, plain.Overlay(g, n, 0), arcs, epoch)
			wantNone(t, "Renew", r, many, e, api.ErrRange)
		}
	}
	o := plain.Overlay(g, n, 2)
	for at := range o {
		for cell := range o[at] {
			o[at][cell].Epoch = 9
			// The arc 7 is inside no cell: the epoch is asked for even where nothing is made anew.
			for _, arcs := range [][]int{nil, {0}, {7}} {
				r, many, e := Renew(g, n, o, arcs, 8)
				wantNone(t, "below", r, many, e, api.ErrRange)
				r, _, e = Renew(g, n, o, arcs, 9)
				want, _ := plainRenew(g, n, o, arcs, 9)
				wantOverlay(t, "at it", g, n, r, e, want)
			}
			o[at][cell].Epoch = 2
		}
	}
}

// Promise 14.3, R1, R5: arcs that are none, and too many of them, ahead of epochs that are wrong.
func TestWrongArcs(t *testing.T) {
	g, n := plain.Rounds()
	o := plain.Overlay(g, n, 3)
	for _, epoch := range append(plain.WrongEpochs(), 2, 3) {
		for _, wrong := range append(plain.WrongNumbers(), len(g.Arcs)) {
			for _, arcs := range [][]int{{wrong}, {0, 1, wrong}, {wrong, 0}, append(make([]int, api.MaxItems-1), wrong)} {
				r, many, e := Renew(g, n, o, arcs, epoch)
				wantNone(t, "no id", r, many, e, api.ErrNone)
			}
			r, many, e := Renew(g, n, o, slices.Repeat([]int{wrong}, api.MaxItems+1), epoch)
			wantNone(t, "too many that are none", r, many, e, api.ErrLong)
		}
		r, many, e := Renew(g, n, o, make([]int, api.MaxItems+1), epoch)
		wantNone(t, "too many", r, many, e, api.ErrLong)
	}
	r, many, e := Renew(g, n, o, make([]int, api.MaxItems), 3)
	want, _ := plainRenew(g, n, o, []int{0}, 3)
	wantOverlay(t, "as many as there may be", g, n, r, e, want)
	if many != 3 {
		t.Error("how many", many)
	}
	// What lies in the spare room behind the arcs has no id.
	short := api.Graph{N: g.N, Arcs: g.Arcs[:9]}
	r, many, e = Renew(short, n, plain.Overlay(short, n, 0), []int{9}, 3)
	wantNone(t, "spare room", r, many, e, api.ErrNone)
}

// R1, R2, R5: all calls answer what chapter 3's Check refuses, then what chapter 11's Check refuses, ahead of what else is wrong.
func TestWrongGraphsAndNests(t *testing.T) {
	for _, x := range append(plain.WrongGraphs(), plain.WrongNests()...) {
		wantRefused(t, x.G, x.N, x.Want)
	}
}

// wantRefused asks all calls for an error, whatever stands behind the nest.
func wantRefused(t *testing.T, g api.Graph, n api.Nest, want api.Errno) {
	t.Helper()
	for _, epoch := range []int{-1, 0, api.MaxTicks + 1} {
		o, e := All(g, n, epoch)
		wantNone(t, "All", o, 0, e, want)
		for _, o := range [][][]api.Matrix{nil, {nil}, {{{Level: 1}}}, {{{Level: 1, Epoch: epoch, D: []api.Dist{0}}, {Level: 1, Cell: 1, Epoch: epoch, D: []api.Dist{0}}}}, make([][]api.Matrix, api.MaxItems+1)} {
			wantErrno(t, "Check", Check(g, n, o), want)
			late, e := Late(g, n, o)
			wantNone(t, "Late", nil, late, e, want)
			for _, arcs := range [][]int{nil, {0}, {-1}, make([]int, api.MaxItems+1)} {
				r, many, e := Renew(g, n, o, arcs, epoch)
				wantNone(t, "Renew", r, many, e, want)
			}
		}
	}
}

// R3: a cell without a boundary has a matrix without members, nil or empty; so may be the list of arcs.
func TestNoMembers(t *testing.T) {
	g := api.Graph{N: 3, Arcs: []api.Arc{{From: 0, To: 2, Weight: 1}, {From: 2, To: 0, Weight: 1}, {From: 1, To: 1}}}
	n := plain.Cells([]int{2, 3}, []int{0, 1, 0}, []int{0, 0, 0})
	want := [][]api.Matrix{{{Level: 1, Cell: 0}, {Level: 1, Cell: 1}}, {{Level: 2, Cell: 0}}}
	o, e := All(g, n, 0)
	wantOverlay(t, "All", g, n, o, e, want)
	for _, none := range [][]api.Dist{nil, {}} {
		old := [][]api.Matrix{{{Level: 1, Cell: 0, D: none}, {Level: 1, Cell: 1, D: none}}, {{Level: 2, Cell: 0, D: none}}}
		for _, arcs := range [][]int{nil, {}} {
			r, many, e := Renew(g, n, old, arcs, 0)
			wantOverlay(t, "Renew", g, n, r, e, want)
			if many != 0 {
				t.Error("how many", many)
			}
		}
		r, many, e := Renew(g, n, old, []int{2}, 0)
		wantOverlay(t, "Renew", g, n, r, e, want)
		if many != 2 {
			t.Error("how many", many)
		}
	}
}

// R4: what is handed in stays as it was, spare room too, what lies there is not read, and answers are new memory.
func TestMemory(t *testing.T) {
	g, n, old := plain.Roomy(2)
	arcs := []int{3, 7, -1, 99}
	were, arcsWere := plain.Numbers(g, n, old), slices.Clone(arcs)
	var answers [][][]api.Matrix
	for range 2 {
		all, e := All(g, n, 4)
		renewed, _, e2 := Renew(g, n, old, arcs[:2], 4)
		none, _, e3 := Renew(g, n, old, nil, 4)
		_, e4 := Late(g, n, old)
		wantOK(t, "answers", e, e2, e3, e4, Check(g, n, old))
		answers = append(answers, all, renewed, none)
	}
	for i, o := range answers {
		wantApart(t, o, g, n, arcs)
		for _, other := range append(answers[:i:i], old) {
			wantOverlaysApart(t, o, other)
		}
	}
	for _, o := range answers {
		for _, l := range o[:cap(o)] {
			for _, m := range l[:cap(l)] {
				clear(m.D[:cap(m.D)])
			}
			clear(l[:cap(l)])
		}
		clear(o[:cap(o)])
	}
	if !slices.EqualFunc(were, plain.Numbers(g, n, old), slices.Equal) || !slices.Equal(arcs, arcsWere) {
		t.Error("what was handed in is changed")
	}
}

// wantApart asks that no list of an answer shares memory with an argument, or with another one of it.
func wantApart(t *testing.T, o [][]api.Matrix, g api.Graph, n api.Nest, arcs []int) {
	t.Helper()
	ds, lists := parts(o)
	for i, d := range ds {
		if overlap(d, g.Arcs) || overlap(d, arcs) || overlap(d, n.Bounds) || slices.ContainsFunc(n.Cells, func(l []int) bool { return overlap(d, l) }) {
			t.Error("distances share memory with an argument")
		}
		if slices.ContainsFunc(ds[:i], func(other []api.Dist) bool { return overlap(d, other) }) {
			t.Error("distances of two matrices share memory")
		}
	}
	for i, l := range lists {
		if slices.ContainsFunc(lists[:i], func(other []api.Matrix) bool { return overlap(l, other) }) {
			t.Error("two levels share memory")
		}
	}
}

func wantOverlaysApart(t *testing.T, a, b [][]api.Matrix) {
	t.Helper()
	ds, lists := parts(a)
	otherDs, otherLists := parts(b)
	if overlap(a, b) {
		t.Error("two overlays share memory")
	}
	for _, d := range ds {
		if slices.ContainsFunc(otherDs, func(other []api.Dist) bool { return overlap(d, other) }) {
			t.Error("distances of two overlays share memory")
		}
	}
	for _, l := range lists {
		if slices.ContainsFunc(otherLists, func(other []api.Matrix) bool { return overlap(l, other) }) {
			t.Error("levels of two overlays share memory")
		}
	}
}

// parts are all lists of an overlay.
func parts(o [][]api.Matrix) (ds [][]api.Dist, lists [][]api.Matrix) {
	for _, l := range o {
		lists = append(lists, l)
		for _, m := range l {
			ds = append(ds, m.D)
		}
	}
	return ds, lists
}

// R7: the same call tells the same, whatever was called ahead, and whatever room lies behind the lists.
func TestTellsTheSame(t *testing.T) {
	draw := plain.Noise()
	for range 20 {
		n := 4 + draw(40)
		g, x := plain.Graph(draw, n, 3*n, 100), plain.Nest(draw, n, 3)
		first, e := All(g, x, 1)
		old, arcs := plain.Shaken(draw, first, 1), []int{draw(n), draw(n)}
		renewed, many, e2 := Renew(g, x, old, arcs, 2)
		wantOK(t, "the first answers", e, e2)
		for range 3 {
			other, e := All(plain.Graph(draw, n, n, 5), plain.Nest(draw, n, 2), 7)
			wantOK(t, "another graph", e)
			clear(other)
			h := api.Graph{N: n, Arcs: slices.Grow(slices.Clone(g.Arcs), 1+draw(9))}
			again, e := All(h, x, 1)
			anew, number, e2 := Renew(h, x, plain.Copied(old), slices.Grow(slices.Clone(arcs), 5), 2)
			wantOK(t, "the same again", e, e2)
			if !sameOverlay(first, again) || !sameOverlay(renewed, anew) || many != number {
				t.Fatal(first, again, renewed, anew)
			}
		}
	}
}

// Promises 14.1 to 14.5, P1: graphs, nests, changes and matrices that are made up.
func FuzzOverlay(f *testing.F) {
	f.Add(3, 0, 0, 0, []byte{0, 1, 5, 1, 2, 7, 0, 2, 20}, []byte{0, 0, 1}, []byte{0, 9, 2, 3})
	f.Add(4, 2, 1, 1, []byte{0, 1, 5, 1, 2, 7, 2, 0, 20, 2, 3, 1, 3, 0, 2}, []byte{0, 0, 1, 2, 0, 0, 0, 1}, []byte{1, 7})
	f.Add(0, -1, 9, -1, []byte{255, 3}, []byte{255}, []byte{255})
	f.Add(2, api.MaxTicks+1, -1, api.MaxTicks+1, []byte{}, []byte{0, 1, 0, 1, 0, 1, 0, 1, 0, 0}, []byte{})
	f.Fuzz(func(t *testing.T, n, epoch, place, next int, ends, numbers, changes []byte) {
		g, x := plain.Read(n, ends, numbers)
		if _, e := nest.Check(g, x); e != api.OK {
			wantRefused(t, g, x, e)
			return
		}
		fuzzed(t, g, x, epoch, place, next, changes)
	})
}

// fuzzed holds Renew against the plain reading, or against the error that it must answer, where one matrix of the overlay has another epoch than the others.
func fuzzed(t *testing.T, g api.Graph, n api.Nest, epoch, place, next int, changes []byte) {
	o, e := All(g, n, 0)
	wantOverlay(t, "All", g, n, o, e, plain.Overlay(g, n, 0))
	at := place & math.MaxInt % len(o)
	o[at][place&math.MaxInt%len(o[at])].Epoch = epoch
	h, arcs, want := api.Graph{N: g.N, Arcs: slices.Clone(g.Arcs)}, []int(nil), api.OK
	for i := 0; i+1 < len(changes); i += 2 {
		arcs = append(arcs, int(changes[i]))
		if int(changes[i]) < len(g.Arcs) {
			h.Arcs[changes[i]].Weight = uint32(changes[i+1])
		} else {
			want = api.ErrNone
		}
	}
	if want == api.OK && (next < 0 || next > api.MaxTicks || next < epoch) {
		want = api.ErrRange
	}
	if epoch < 0 || epoch > api.MaxTicks {
		want = api.ErrMatrix
	}
	r, many, e := Renew(h, n, o, arcs, next)
	if want != api.OK {
		wantNone(t, "Renew", r, many, e, want)
		return
	}
	told, all := plainRenew(h, n, o, arcs, next)
	wantOverlay(t, "Renew", h, n, r, e, told)
	if many != all {
		t.Error("how many", many, all)
	}
	if right := plain.Overlay(h, n, 0); !slices.EqualFunc(slices.Concat(right...), slices.Concat(r...), func(a, b api.Matrix) bool { return slices.Equal(a.D, b.D) }) {
		t.Error("not right", right, r)
	}
}
