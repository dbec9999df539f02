package unpack

import (
	"math"
	"slices"
	"testing"

	"flyover/api"
	"flyover/near"
	"flyover/nest"
	"flyover/overlay"
	"flyover/plain"
)

// wantArcs asks for these very arcs, where no others are as short.
func wantArcs(t *testing.T, name string, arcs []int, d api.Dist, e api.Errno, want api.Dist, wanted ...int) {
	t.Helper()
	if e != api.OK || d != want || !slices.Equal(arcs, wanted) {
		t.Errorf("%s: %v, %v, %v, want %v, %v", name, arcs, d, e, wanted, want)
	}
}

// Promises 16.1, 16.2: the chapter's example.
func TestExample(t *testing.T) {
	g, n := plain.Three()
	o := plain.Overlay(g, n, 0)
	arcs, d, e := Walk(g, n, o, 0, 2)
	wantArcs(t, "Walk of 0, 2", arcs, d, e, 12, 0, 1)
	arcs, d, e = Walk(g, n, o, 2, 0)
	wantArcs(t, "Walk of 2, 0", arcs, d, e, api.Inf)
	arcs, d, e = Walk(g, n, o, 1, 1)
	wantArcs(t, "Walk of 1, 1", arcs, d, e, 0)
	arcs, d, e = Shortcut(g, n, 1, 0, 0, 1)
	wantArcs(t, "Shortcut of 1, 0, 0, 1", arcs, d, e, 5, 0)
	arcs, d, e = Shortcut(g, n, 1, 0, 0, 2)
	wantNone(t, "Shortcut of 1, 0, 0, 2", arcs, d, e, api.ErrNone)
	g.Arcs[2].Weight = 3
	arcs, d, e = Walk(g, n, o, 0, 2)
	wantArcs(t, "Walk of 0, 2 in the epoch 1", arcs, d, e, 3, 2)
}

// Promises 16.1, 16.2: what is told by hand of three levels, where of each two vertices one walk alone is the shortest.
func TestLevels(t *testing.T) {
	g, n := plain.Rounds()
	o := plain.Overlay(g, n, 4)
	for _, x := range []struct {
		s, u int
		want api.Dist
		arcs []int
	}{
		{0, 0, 0, nil}, {0, 1, 2, []int{0}}, {0, 2, 2, []int{0, 10}}, {0, 3, 6, []int{0, 10, 3}}, {0, 4, 7, []int{0, 10, 3, 5}}, {0, 5, 13, []int{0, 10, 3, 5, 7}},
		{1, 0, 7, []int{10, 3, 4}}, {1, 5, 11, []int{10, 3, 5, 7}}, {2, 0, 7, []int{3, 4}}, {2, 1, 6, []int{3, 5, 6}}, {3, 1, 2, []int{5, 6}}, {3, 2, 2, []int{5, 6, 10}},
		{4, 0, 8, []int{6, 10, 3, 4}}, {4, 3, 5, []int{6, 10, 3}}, {5, 0, 8, []int{8}}, {5, 4, 15, []int{8, 0, 10, 3, 5}}, {5, 5, 0, nil},
	} {
		arcs, d, e := Walk(g, n, o, x.s, x.u)
		wantArcs(t, "Walk", arcs, d, e, x.want, x.arcs...)
	}
	for _, x := range []struct {
		level, cell, u, v int
		want              api.Dist
		arcs              []int
	}{
		{1, 0, 0, 1, 2, []int{0}}, {1, 0, 1, 0, 9, []int{1}}, {1, 0, 0, 0, 0, nil}, {1, 1, 2, 3, 4, []int{3}}, {1, 1, 3, 2, api.Inf, nil}, {1, 2, 4, 4, 0, nil}, {1, 3, 5, 5, 0, nil},
		{2, 0, 1, 0, 7, []int{10, 3, 4}}, {2, 0, 3, 2, 5, []int{4, 0, 10}}, {2, 0, 0, 3, 6, []int{0, 10, 3}}, {2, 1, 4, 4, 0, nil},
		{3, 0, 3, 2, 2, []int{5, 6, 10}}, {3, 0, 4, 0, 8, []int{6, 10, 3, 4}}, {3, 0, 2, 1, 6, []int{3, 5, 6}}, {3, 1, 5, 5, 0, nil},
	} {
		arcs, d, e := Shortcut(g, n, x.level, x.cell, x.u, x.v)
		wantArcs(t, "Shortcut", arcs, d, e, x.want, x.arcs...)
	}
}

// wantPlain holds both calls, of all cells and of all two vertices, against the plain readings.
func wantPlain(t *testing.T, g api.Graph, n api.Nest, epoch int) {
	t.Helper()
	o := plain.Overlay(g, n, epoch)
	for s := range g.N {
		for u := range g.N {
			arcs, d, e := Walk(g, n, o, s, u)
			wantWalk(t, "Walk", g, s, u, arcs, d, e, plainDist(g, s, u))
			for at, labels := range n.Cells {
				for cell := range plain.Many(n, at+1) {
					if labels[s] == cell && labels[u] == cell {
						wantWithin(t, g, n, at+1, cell, s, u, plainInside(g, n, at+1, cell, s, u))
						continue
					}
					arcs, d, e := Shortcut(g, n, at+1, cell, s, u)
					wantNone(t, "Shortcut of others", arcs, d, e, api.ErrNone)
				}
			}
		}
	}
	if t.Failed() {
		t.Fatal(g, n)
	}
}

// Promises 16.1, 16.2: all graphs of up to three vertices with all nests of up to two levels.
func TestAll(t *testing.T) {
	draw := plain.Noise()
	for n := 1; n < 4; n++ {
		for _, x := range plain.Nests(n) {
			for _, g := range plain.Graphs(draw, n) {
				wantPlain(t, g, x, draw(5))
			}
		}
	}
}

// Promises 16.1, 16.2, W5: of nests that were drawn and of nests that were made.
func TestAgainstPlain(t *testing.T) {
	draw := plain.Noise()
	for n := 1; n < 18; n++ {
		for _, most := range []int{0, 3, 1 << 20} {
			g := plain.Graph(draw, n, draw(4*n+1), most)
			wantPlain(t, g, plain.Nest(draw, n, 1+draw(api.MaxLevels)), draw(5))
			wantPlain(t, plain.Reweighed(draw, g), plain.Nest(draw, n, 1+draw(3)), draw(5))
			made, e := nest.Make(g, []int{1 + n/4, 2 + n/2, n + 2}, []int{draw(n), draw(n)}, draw(5))
			wantOK(t, "Make", e)
			wantPlain(t, g, made, draw(5))
		}
	}
}

// wantNear asks for what chapter 5 says, and for a walk whose length it tells.
func wantNear(t *testing.T, g api.Graph, n api.Nest, o [][]api.Matrix, s, u int) {
	t.Helper()
	want, e := near.Between(g, s, u)
	wantOK(t, "Between", e)
	arcs, d, e := Walk(g, n, o, s, u)
	wantWalk(t, "Walk", g, s, u, arcs, d, e, want)
	if d == api.Inf {
		return
	}
	if length, e := near.Length(g, s, u, arcs); e != api.OK || length != d {
		t.Errorf("Length of %v from %d to %d: %v, %v, want %v", arcs, s, u, length, e, d)
	}
	if comesTwice(g, s, arcs) {
		t.Errorf("Walk of %d, %d: %v comes to a vertex twice", s, u, arcs)
	}
}

// wantNearWithin asks for what chapter 5 says within each cell in which both u and v lie.
func wantNearWithin(t *testing.T, g api.Graph, n api.Nest, u, v int) {
	t.Helper()
	for at, labels := range n.Cells {
		if labels[u] != labels[v] {
			continue
		}
		in := make([]bool, g.N)
		for w, label := range labels {
			in[w] = label == labels[u]
		}
		far, e := near.Within(g, u, in)
		wantOK(t, "Within", e)
		wantWithin(t, g, n, at+1, labels[u], u, v, far[v])
	}
}

// Promise 16.3, W3, W5: whatever the nest, a walk is told whose length chapter 5 tells to be the distance; change after change.
func TestFollows(t *testing.T) {
	draw := plain.Noise()
	for n := 1; n < 60; n += 1 + n/8 {
		for _, most := range []int{0, 1, 50} {
			g := plain.Graph(draw, n, 1+draw(4*n), most)
			for range 4 {
				x := plain.Nest(draw, n, 1+draw(api.MaxLevels))
				o, e := overlay.All(g, x, 0)
				wantOK(t, "All", e)
				for epoch := range 3 {
					for range 3 * n {
						wantNear(t, g, x, o, draw(n), draw(n))
						wantNearWithin(t, g, x, draw(n), draw(n))
					}
					if t.Failed() {
						t.Fatal(g, x)
					}
					arc := draw(len(g.Arcs))
					g.Arcs[arc].Weight = uint32(draw(2 * (most + 1)))
					o, _, e = overlay.Renew(g, x, o, []int{arc}, epoch+1)
					wantOK(t, "Renew", e)
				}
			}
		}
	}
}

// Promises 16.1 to 16.3, P1: the greatest graphs, with as many levels as there may be, with cells of one vertex each, and with weights of which many are 0.
func TestGreatest(t *testing.T) {
	draw := plain.Noise()
	g := plain.Great(draw)
	for _, bounds := range [][]int{{16, 64, 128, 256, 1024}, {1, 700}, {2}, {200, 300}} {
		x, e := nest.Make(g, bounds, nil, 0)
		wantOK(t, "Make", e)
		for _, most := range []int{1, 3, 1000} {
			for id := range g.Arcs {
				g.Arcs[id].Weight = uint32(draw(most))
			}
			o, e := overlay.All(g, x, 0)
			wantOK(t, "All", e)
			for range 25 {
				wantNear(t, g, x, o, draw(g.N), draw(g.N))
				// Within a cell or close by.
				s := draw(g.N)
				for _, u := range []int{min(s+draw(3), g.N-1), max(s-32, 0)} {
					wantNear(t, g, x, o, s, u)
					wantNearWithin(t, g, x, s, u)
				}
			}
		}
	}
}

// Promises 16.1 to 16.3, P1: the greatest graphs of other shapes, the greatest distances, and the longest walks.
func TestGreatestOfOtherShapes(t *testing.T) {
	draw := plain.Noise()
	for _, g := range plain.Shapes(draw) {
		for _, n := range []api.Nest{plain.Lopsided(g.N), plain.Halved(g.N)} {
			o, e := overlay.All(g, n, 0)
			wantOK(t, "All", e)
			for range 20 {
				wantNear(t, g, n, o, draw(g.N), draw(g.N))
				wantNearWithin(t, g, n, draw(g.N), draw(g.N))
			}
			wantNear(t, g, n, o, 0, g.N-1)
			wantNear(t, g, n, o, g.N-1, 0)
			wantNearWithin(t, g, n, g.N-1, 0)
		}
	}
	way := plain.Long()
	pairs := make([]int, way.N)
	for v := range pairs {
		pairs[v] = v / 2
	}
	there := make([]int, way.N-1)
	for at := range there {
		there[at] = 2 * at
	}
	// Of the longest walk each vertex is passed alone, each second arc is a shortcut, or all arcs but those at its ends are one.
	lone := slices.Repeat([]int{1}, way.N)
	lone[0], lone[way.N-1] = 0, 2
	for _, n := range []api.Nest{plain.Halved(way.N), plain.Cells([]int{2}, pairs), plain.Cells([]int{way.N}, lone)} {
		o, e := overlay.All(way, n, 0)
		wantOK(t, "All", e)
		arcs, d, e := Walk(way, n, o, 0, way.N-1)
		wantArcs(t, "the longest walk", arcs, d, e, (api.MaxVertices-1)*math.MaxUint32, there...)
	}
}

// Promise 16.1: a walk may leave the cell of both its ends and come back into it, pass the cell of one of them in between, and pass another one twice.
func TestDetours(t *testing.T) {
	g := api.Graph{N: 8, Arcs: []api.Arc{
		{From: 0, To: 1, Weight: 100}, {From: 0, To: 3, Weight: 1}, {From: 3, To: 1, Weight: 1}, {From: 1, To: 4, Weight: 1}, {From: 4, To: 2, Weight: 1}, {From: 3, To: 3, Weight: 0},
		{From: 3, To: 4, Weight: 50}, {From: 4, To: 5, Weight: 9}, {From: 2, To: 6, Weight: 0}, {From: 6, To: 7, Weight: 0},
	}}
	low := []int{0, 0, 0, 1, 1, 2, 3, 3}
	for _, n := range []api.Nest{plain.Cells([]int{3}, low), plain.Cells([]int{3, 8}, low, make([]int, 8)), plain.Cells([]int{3, 5}, low, []int{0, 0, 0, 0, 0, 1, 2, 2}), plain.Cells([]int{3, 5}, low, []int{0, 0, 0, 1, 1, 1, 2, 2}), plain.Cells([]int{1, 2, 4}, plain.Count(8), []int{0, 1, 2, 0, 1, 3, 4, 4}, []int{0, 1, 1, 0, 1, 2, 2, 2})} {
		o := plain.Overlay(g, n, 0)
		for _, x := range []struct {
			s, u int
			want api.Dist
			arcs []int
		}{
			{0, 1, 2, []int{1, 2}}, {0, 2, 4, []int{1, 2, 3, 4}}, {1, 2, 2, []int{3, 4}}, {3, 4, 2, []int{2, 3}}, {3, 2, 3, []int{2, 3, 4}}, {0, 5, 12, []int{1, 2, 3, 7}},
			{0, 7, 4, []int{1, 2, 3, 4, 8, 9}}, {3, 5, 11, []int{2, 3, 7}}, {2, 0, api.Inf, nil}, {1, 3, api.Inf, nil}, {4, 4, 0, nil}, {5, 4, api.Inf, nil},
		} {
			arcs, d, e := Walk(g, n, o, x.s, x.u)
			wantArcs(t, "Walk", arcs, d, e, x.want, x.arcs...)
		}
	}
}

// Promise 16.3, P1, R7: beside an overlay that is not right what is told is a walk, too, of the length that is told, or none; and the same again.
func TestAnyNumbers(t *testing.T) {
	draw := plain.Noise()
	for n := 1; n < 24; n++ {
		for range 40 {
			g, x := plain.Graph(draw, n, draw(5*n), math.MaxInt32), plain.Nest(draw, n, 1+draw(api.MaxLevels))
			o, s, u := plain.Shaken(draw, plain.Overlay(g, x, 0), 3), draw(n), draw(n)
			arcs, d, e := Walk(g, x, o, s, u)
			wantOfWalk(t, g, s, u, arcs, d, e)
			again, d2, e := Walk(g, x, plain.Copied(o), s, u)
			wantArcs(t, "Walk again", again, d2, e, d, arcs...)
		}
	}
}

// wantOfWalk asks for a walk and its length, whatever this is; or for none and Inf.
func wantOfWalk(t *testing.T, g api.Graph, s, u int, arcs []int, d api.Dist, e api.Errno) {
	t.Helper()
	wantOK(t, "Walk", e)
	if d != api.Inf {
		wantWalk(t, "Walk", g, s, u, arcs, d, e, max(d, plainDist(g, s, u)))
	} else if len(arcs) > 0 {
		t.Error("none, but of arcs", arcs)
	}
}

// Promise 16.3: an overlay of the weights ahead of a change, and one that tells of a shortcut that there is not, or of none where there is one.
func TestNotRight(t *testing.T) {
	draw := plain.Noise()
	for n := 2; n < 30; n++ {
		g, x := plain.Graph(draw, n, 4*n, 50), plain.Nest(draw, n, 1+draw(3))
		o, h := plain.Overlay(g, x, 0), plain.Reweighed(draw, g)
		for range 20 {
			s, u := draw(n), draw(n)
			arcs, d, e := Walk(h, x, o, s, u)
			wantOfWalk(t, h, s, u, arcs, d, e)
			if want := plainDist(g, s, u); (d == api.Inf) != (want == api.Inf) {
				t.Error("whether there is a walk does not hang on weights", d, want)
			}
		}
	}
	g := api.Graph{N: 4, Arcs: []api.Arc{{From: 0, To: 1, Weight: 1}, {From: 2, To: 3, Weight: 1}, {From: 2, To: 1, Weight: 1}}}
	x := plain.Cells([]int{2}, []int{0, 1, 1, 2})
	for _, told := range []api.Dist{0, 5, api.Inf - 3, api.Inf - 2, api.Inf - 1, api.Inf} {
		o := plain.Overlay(g, x, 0)
		o[0][1].D[1] = told
		arcs, d, e := Walk(g, x, o, 0, 3)
		wantArcs(t, "a shortcut that there is not", arcs, d, e, api.Inf)
	}
	g.Arcs[2] = api.Arc{From: 1, To: 2, Weight: 1}
	for _, told := range []api.Dist{0, 5, 1 << 60} {
		o := plain.Overlay(g, x, 0)
		o[0][1].D[1] = told
		arcs, d, e := Walk(g, x, o, 0, 3)
		wantArcs(t, "a shortcut that is of another length", arcs, d, e, 3, 0, 2, 1)
	}
	o := plain.Overlay(g, x, 0)
	o[0][1].D[1] = api.Inf
	arcs, d, e := Walk(g, x, o, 0, 3)
	wantOfWalk(t, g, 0, 3, arcs, d, e)
}

// Promise 16.1, R1, R5: what is no overlay, ahead of vertices that are wrong.
func TestWrongOverlays(t *testing.T) {
	g, n := plain.Rounds()
	for _, o := range plain.WrongOverlays(g, n) {
		for _, x := range [][2]int{{0, 3}, {2, 2}, {-1, 0}, {0, 6}} {
			arcs, d, e := Walk(g, n, o, x[0], x[1])
			wantNone(t, "Walk", arcs, d, e, api.ErrMatrix)
		}
	}
}

// Promises 16.1, 16.2, R1, R5: vertices that there are not, at both places.
func TestWrongVertices(t *testing.T) {
	g, n := plain.Rounds()
	o := plain.Overlay(g, n, 3)
	for _, wrong := range append(plain.WrongNumbers(), g.N) {
		for _, right := range []int{0, 3, g.N - 1, wrong} {
			for _, x := range [][2]int{{wrong, right}, {right, wrong}} {
				arcs, d, e := Walk(g, n, o, x[0], x[1])
				wantNone(t, "Walk", arcs, d, e, api.ErrNone)
				for level := 1; level < 4; level++ {
					for cell := range plain.Many(n, level) {
						arcs, d, e := Shortcut(g, n, level, cell, x[0], x[1])
						wantNone(t, "Shortcut", arcs, d, e, api.ErrNone)
					}
				}
			}
		}
	}
}

// Promise 16.2, R1, R5: levels that there are not, then cells that there are not, ahead of vertices that are wrong.
func TestWrongCells(t *testing.T) {
	g, n := plain.Rounds()
	for _, x := range [][2]int{{0, 1}, {0, 0}, {5, 0}, {-1, 9}, {math.MinInt, math.MaxInt}} {
		for _, level := range append(plain.WrongNumbers(), 0, 4, 5) {
			for _, cell := range append(plain.WrongNumbers(), 0, 1, 4) {
				arcs, d, e := Shortcut(g, n, level, cell, x[0], x[1])
				wantNone(t, "no level", arcs, d, e, api.ErrLevel)
			}
		}
		for level := 1; level < 4; level++ {
			for _, cell := range append(plain.WrongNumbers(), plain.Many(n, level), g.N) {
				arcs, d, e := Shortcut(g, n, level, cell, x[0], x[1])
				wantNone(t, "no cell", arcs, d, e, api.ErrCell)
			}
		}
	}
}

// R1, R2, R5: both calls answer what chapter 3's Check refuses, then what chapter 11's Check refuses, ahead of what else is wrong.
func TestWrongGraphsAndNests(t *testing.T) {
	for _, x := range append(plain.WrongGraphs(), plain.WrongNests()...) {
		wantRefused(t, x.G, x.N, x.Want)
	}
}

// wantRefused asks both calls for an error, whatever stands behind the nest.
func wantRefused(t *testing.T, g api.Graph, n api.Nest, want api.Errno) {
	t.Helper()
	for _, x := range [][2]int{{0, 1}, {0, 0}, {-1, 0}, {0, math.MaxInt}} {
		for _, o := range [][][]api.Matrix{nil, {nil}, {{{Level: 1}}}, {{{Level: 1, D: []api.Dist{0}}, {Level: 1, Cell: 1, D: []api.Dist{0}}}}, make([][]api.Matrix, api.MaxItems+1)} {
			arcs, d, e := Walk(g, n, o, x[0], x[1])
			wantNone(t, "Walk", arcs, d, e, want)
		}
		for _, level := range []int{-1, 0, 1, 2, math.MaxInt} {
			for _, cell := range []int{-1, 0, 1, math.MaxInt} {
				arcs, d, e := Shortcut(g, n, level, cell, x[0], x[1])
				wantNone(t, "Shortcut", arcs, d, e, want)
			}
		}
	}
}

// R3: a graph without arcs, and matrices without members, nil or empty.
func TestNoMembers(t *testing.T) {
	n := plain.Cells([]int{2, 3}, []int{0, 1, 0}, []int{0, 0, 0})
	for _, none := range [][]api.Dist{nil, {}} {
		o := [][]api.Matrix{{{Level: 1, Cell: 0, D: none}, {Level: 1, Cell: 1, D: none}}, {{Level: 2, Cell: 0, D: none}}}
		for _, arcs := range [][]api.Arc{nil, {}, {{From: 0, To: 2, Weight: 6}}} {
			g := api.Graph{N: 3, Arcs: arcs}
			for s := range g.N {
				for u := range g.N {
					walk, d, e := Walk(g, n, o, s, u)
					wantWalk(t, "Walk", g, s, u, walk, d, e, plainDist(g, s, u))
					wantWithin(t, g, n, 2, 0, s, u, plainDist(g, s, u))
				}
			}
			wantWithin(t, g, n, 1, 1, 1, 1, 0)
			wantWithin(t, g, n, 1, 0, 2, 0, api.Inf)
		}
	}
}

// R4: what is handed in stays as it was, spare room too, what lies there is not read, and answers are new memory.
func TestMemory(t *testing.T) {
	g, n, o := plain.Roomy(2)
	were := plain.Numbers(g, n, o)
	var answers [][]int
	for range 2 {
		for _, x := range [][2]int{{0, 5}, {5, 4}, {0, 1}, {4, 5}} {
			arcs, d, e := Walk(g, n, o, x[0], x[1])
			wantWalk(t, "Walk", g, x[0], x[1], arcs, d, e, plainDist(g, x[0], x[1]))
			answers = append(answers, arcs)
		}
		for level := 1; level < 4; level++ {
			arcs, _, e := Shortcut(g, n, level, 0, 0, 1)
			wantOK(t, "Shortcut", e)
			answers = append(answers, arcs)
		}
	}
	for i, l := range answers {
		if len(l) == 0 {
			t.Error("no arcs to look at")
		}
		if overlap(l, g.Arcs) || overlap(l, n.Bounds) || slices.ContainsFunc(n.Cells, func(cells []int) bool { return overlap(l, cells) }) {
			t.Error("an answer shares memory with an argument")
		}
		if slices.ContainsFunc(answers[:i], func(other []int) bool { return overlap(l, other) }) {
			t.Error("two answers share memory")
		}
		clear(l[:cap(l)])
	}
	if !slices.EqualFunc(were, plain.Numbers(g, n, o), slices.Equal) {
		t.Error("what was handed in is changed")
	}
}

// R7: the same call tells the same walk, whatever was called ahead, and whatever room lies behind the lists.
func TestTellsTheSame(t *testing.T) {
	draw := plain.Noise()
	for range 30 {
		n := 4 + draw(40)
		// Of small weights, so that many walks are as short.
		g, x := plain.Graph(draw, n, 4*n, 2), plain.Nest(draw, n, 3)
		o := plain.Overlay(g, x, 1)
		s, u := draw(n), draw(n)
		top := x.Cells[2][s]
		walk, d, e := Walk(g, x, o, s, u)
		short, within, e2 := Shortcut(g, x, 3, top, s, slices.Index(x.Cells[2], top))
		wantOK(t, "answers", e, e2)
		for range 3 {
			other, y := plain.Graph(draw, n, n, 5), plain.Nest(draw, n, 2)
			_, _, e := Walk(other, y, plain.Overlay(other, y, 0), draw(n), draw(n))
			wantOK(t, "Walk of another one", e)
			h := api.Graph{N: n, Arcs: slices.Grow(slices.Clone(g.Arcs), 1+draw(9))}
			arcs, d2, e := Walk(h, x, plain.Copied(o), s, u)
			wantArcs(t, "Walk again", arcs, d2, e, d, walk...)
			arcs, d2, e = Shortcut(h, x, 3, top, s, slices.Index(x.Cells[2], top))
			wantArcs(t, "Shortcut again", arcs, d2, e, within, short...)
		}
	}
}

// Promises 16.1 to 16.3, P1: graphs, nests, cells and vertices that are made up, and overlays of other distances.
func FuzzUnpack(f *testing.F) {
	f.Add(3, 0, 2, 1, 0, []byte{0, 1, 5, 1, 2, 7, 0, 2, 20}, []byte{0, 0, 1}, []byte{})
	f.Add(4, 1, 0, 2, 0, []byte{0, 1, 5, 1, 2, 7, 2, 0, 20, 2, 3, 1, 3, 0, 2}, []byte{0, 0, 1, 2, 0, 0, 0, 1}, []byte{1, 7})
	f.Add(0, -1, 9, 0, 7, []byte{255, 3}, []byte{255}, []byte{255})
	f.Add(2, 1, 2, 3, -1, []byte{}, []byte{0, 1, 0, 1, 0, 1, 0, 1, 0, 0}, []byte{0})
	f.Fuzz(func(t *testing.T, n, s, u, level, cell int, ends, labels, numbers []byte) {
		g, x := plain.Read(n, ends, labels)
		if _, e := nest.Check(g, x); e != api.OK {
			wantRefused(t, g, x, e)
			return
		}
		fuzzed(t, g, x, s, u, numbers)
		fuzzedShortcut(t, g, x, level, cell, s, u)
	})
}

func fuzzed(t *testing.T, g api.Graph, n api.Nest, s, u int, numbers []byte) {
	o := plain.Overlay(g, n, 0)
	arcs, d, e := Walk(g, n, o, s, u)
	if s < 0 || s >= g.N || u < 0 || u >= g.N {
		wantNone(t, "Walk", arcs, d, e, api.ErrNone)
		return
	}
	wantWalk(t, "Walk", g, s, u, arcs, d, e, plainDist(g, s, u))
	if comesTwice(g, s, arcs) {
		t.Error("a vertex comes twice", arcs)
	}
	for _, l := range o {
		for at := range l {
			for i := range l[at].D {
				if len(numbers) > 0 {
					l[at].D[i], numbers = api.Dist(numbers[0])<<(numbers[0]%60), numbers[1:]
				}
			}
		}
	}
	arcs, d, e = Walk(g, n, o, s, u)
	wantOfWalk(t, g, s, u, arcs, d, e)
}

func fuzzedShortcut(t *testing.T, g api.Graph, n api.Nest, level, cell, u, v int) {
	arcs, d, e := Shortcut(g, n, level, cell, u, v)
	isIn := func(x int) bool { return x >= 0 && x < g.N && n.Cells[level-1][x] == cell }
	switch {
	case level < 1 || level > len(n.Cells):
		wantNone(t, "Shortcut", arcs, d, e, api.ErrLevel)
	case cell < 0 || cell >= plain.Many(n, level):
		wantNone(t, "Shortcut", arcs, d, e, api.ErrCell)
	case !isIn(u) || !isIn(v):
		wantNone(t, "Shortcut", arcs, d, e, api.ErrNone)
	default:
		wantWithin(t, g, n, level, cell, u, v, plainInside(g, n, level, cell, u, v))
	}
}
