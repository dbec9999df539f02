package query

import (
	"math"
	"slices"
	"testing"

	"flyover/api"
	"flyover/near"
	"flyover/nest"
	"flyover/overlay"
	"flyover/plain"
)

// Promises 15.1 to 15.3: the chapter's example, and DOC.md's examples 1 and 3.
func TestExample(t *testing.T) {
	g, n := plain.Three()
	o := plain.Overlay(g, n, 0)
	d, e := Dist(g, n, o, 0, 2)
	wantDist(t, "Dist of 0 and 2", d, e, 12)
	d, e = Dist(g, n, o, 2, 0)
	wantDist(t, "Dist of 2 and 0", d, e, api.Inf)
	there, direct, e := Piece(g, n, 0, 1, false, []uint32{5})
	wantPiece(t, "Piece of 0 and 1", there, direct, e, []api.Dist{0, 5}, 5)
	back, direct, e := Piece(g, n, 2, 0, true, nil)
	wantPiece(t, "Piece of 2 and 0, back", back, direct, e, []api.Dist{0}, api.Inf)
	d, e = Gather(g, n, o, 0, 2, there, back, direct)
	wantDist(t, "Gather", d, e, 12)
	g.Arcs[2].Weight = 3
	d, e = Dist(g, n, o, 0, 2)
	wantDist(t, "Dist in the epoch 1", d, e, 3)
	d, e = Gather(g, n, o, 0, 2, there, back, direct)
	wantDist(t, "Gather in the epoch 1", d, e, 3)
}

// Promises 15.1 to 15.3: what is told by hand of three levels.
func TestLevels(t *testing.T) {
	const no = api.Inf
	g, n := plain.Rounds()
	o := plain.Overlay(g, n, 4)
	for _, x := range []struct {
		v, w    int
		back    bool
		weights []uint32
		want    []api.Dist
		direct  api.Dist
	}{
		{0, 1, false, []uint32{2, 9, 7}, []api.Dist{0, 2}, 2}, {0, 1, true, []uint32{2, 9, 7}, []api.Dist{0, 9}, 9}, {1, 0, false, []uint32{2, 9, 7}, []api.Dist{9, 0}, 9}, {1, 0, true, []uint32{2, 9, 7}, []api.Dist{2, 0}, 2},
		{0, 1, false, []uint32{6, 0, 7}, []api.Dist{0, 6}, 6}, {0, 1, true, []uint32{6, 0, 7}, []api.Dist{0, 0}, 0}, {0, 0, false, []uint32{2, 9, 7}, []api.Dist{0, 2}, 0}, {0, 0, true, []uint32{2, 9, 7}, []api.Dist{0, 9}, 0},
		{1, 2, false, []uint32{2, 9, 7}, []api.Dist{9, 0}, no}, {1, 5, true, []uint32{2, 9, 7}, []api.Dist{2, 0}, no},
		{2, 3, false, []uint32{4}, []api.Dist{0, 4}, 4}, {2, 3, true, []uint32{4}, []api.Dist{0, no}, no}, {3, 2, false, []uint32{4}, []api.Dist{no, 0}, no}, {3, 2, true, []uint32{4}, []api.Dist{4, 0}, 4}, {3, 2, true, []uint32{math.MaxUint32}, []api.Dist{math.MaxUint32, 0}, math.MaxUint32},
		{4, 4, false, nil, []api.Dist{0}, 0}, {4, 5, false, nil, []api.Dist{0}, no}, {5, 4, true, nil, []api.Dist{0}, no},
	} {
		d, direct, e := Piece(g, n, x.v, x.w, x.back, x.weights)
		wantPiece(t, "Piece", d, direct, e, x.want, x.direct)
	}
	for s, l := range [][]api.Dist{{0, 2, 2, 6, 7, 13}, {7, 0, 0, 4, 5, 11}, {7, 6, 0, 4, 5, 11}, {3, 2, 2, 0, 1, 7}, {8, 1, 1, 5, 0, 6}, {8, 10, 10, 14, 15, 0}} {
		for u, want := range l {
			d, e := Dist(g, n, o, s, u)
			wantDist(t, "Dist", d, e, want)
			there, direct := plainPiece(g, n, s, u, false)
			back, _ := plainPiece(g, n, u, s, true)
			d, e = Gather(g, n, o, s, u, there, back, direct)
			wantDist(t, "Gather", d, e, want)
		}
	}
}

// wantPlain holds all calls, of all two vertices, against the plain readings: with g's weights, and with h's, of which those inside cells of the level 1 are told by the pieces and the overlay alone.
func wantPlain(t *testing.T, draw func(int) int, g, h api.Graph, n api.Nest) {
	t.Helper()
	ofG, ofH := plain.Overlay(g, n, draw(5)), plain.Overlay(h, n, draw(5))
	hidden := otherInside(draw, h, n)
	for s := range g.N {
		for u := range g.N {
			d, e := Dist(g, n, ofG, s, u)
			wantDist(t, "Dist", d, e, plainDist(g, s, u))
			there, direct := plainPiece(h, n, s, u, false)
			got, gotDirect, e := Piece(g, n, s, u, false, innerWeights(h, n, s))
			wantPiece(t, "Piece", got, gotDirect, e, there, direct)
			back, _ := plainPiece(h, n, u, s, true)
			got, gotDirect, e = Piece(g, n, u, s, true, innerWeights(h, n, u))
			wantPiece(t, "Piece, back", got, gotDirect, e, back, direct)
			d, e = Gather(hidden, n, ofH, s, u, there, back, direct)
			wantDist(t, "Gather", d, e, plainDist(h, s, u))
		}
	}
	if t.Failed() {
		t.Fatal(g, h, n)
	}
}

// Promises 15.1 to 15.3: all graphs of up to three vertices with all nests of up to two levels.
func TestAll(t *testing.T) {
	draw := plain.Noise()
	for n := 1; n < 4; n++ {
		for _, x := range plain.Nests(n) {
			for _, g := range plain.Graphs(draw, n) {
				wantPlain(t, draw, g, plain.Reweighed(draw, g), x)
			}
		}
	}
}

// Promises 15.1 to 15.3, W5: of nests that were drawn and of nests that were made.
func TestAgainstPlain(t *testing.T) {
	draw := plain.Noise()
	for n := 1; n < 22; n++ {
		for _, most := range []int{0, 3, 1 << 20} {
			g := plain.Graph(draw, n, draw(4*n+1), most)
			h := plain.Reweighed(draw, g)
			wantPlain(t, draw, g, h, plain.Nest(draw, n, 1+draw(api.MaxLevels)))
			made, e := nest.Make(g, []int{1 + n/4, 2 + n/2, n + 2}, []int{draw(n), draw(n)}, draw(5))
			wantOK(t, "Make", e)
			wantPlain(t, draw, g, h, made)
		}
	}
}

// asked answers Dist, and Gather of the pieces that Piece makes; by the calls alone.
func asked(t *testing.T, g api.Graph, n api.Nest, o [][]api.Matrix, s, u int) (d, gathered api.Dist) {
	t.Helper()
	d, e := Dist(g, n, o, s, u)
	there, direct, e2 := Piece(g, n, s, u, false, innerWeights(g, n, s))
	back, again, e3 := Piece(g, n, u, s, true, innerWeights(g, n, u))
	gathered, e4 := Gather(g, n, o, s, u, there, back, direct)
	wantOK(t, "what is asked", e, e2, e3, e4)
	if direct != again {
		t.Error("direct from both ends", direct, again)
	}
	return d, gathered
}

// wantNear asks for what chapter 5 says.
func wantNear(t *testing.T, g api.Graph, n api.Nest, o [][]api.Matrix, s, u int) {
	t.Helper()
	want, e := near.Between(g, s, u)
	wantOK(t, "Between", e)
	if d, gathered := asked(t, g, n, o, s, u); d != want || gathered != want {
		t.Error(s, u, d, gathered, want)
	}
}

// Promise 15.4, W5: the same answer, whatever the nest; change after change.
func TestFollows(t *testing.T) {
	draw := plain.Noise()
	for n := 1; n < 60; n += 1 + n/8 {
		g := plain.Graph(draw, n, 1+draw(3*n), 50)
		for range 4 {
			x := plain.Nest(draw, n, 1+draw(api.MaxLevels))
			o, e := overlay.All(g, x, 0)
			wantOK(t, "All", e)
			for epoch := range 3 {
				for range 3 * n {
					wantNear(t, g, x, o, draw(n), draw(n))
				}
				if t.Failed() {
					t.Fatal(g, x)
				}
				arc := draw(len(g.Arcs))
				g.Arcs[arc].Weight = uint32(draw(100))
				o, _, e = overlay.Renew(g, x, o, []int{arc}, epoch+1)
				wantOK(t, "Renew", e)
			}
		}
	}
}

// Promises 15.1 to 15.4, P1: the greatest graphs, with as many levels as there may be, and with cells of one vertex each.
func TestGreatest(t *testing.T) {
	draw := plain.Noise()
	for _, bounds := range [][]int{{16, 64, 128, 256, 1024}, {1, 700}, {200, 300}} {
		g := plain.Great(draw)
		x, e := nest.Make(g, bounds, nil, 0)
		wantOK(t, "Make", e)
		o, e := overlay.All(g, x, 0)
		wantOK(t, "All", e)
		for range 300 {
			wantNear(t, g, x, o, draw(g.N), draw(g.N))
		}
		for range 50 {
			// Within a cell or close by.
			s := draw(g.N)
			wantNear(t, g, x, o, s, min(s+draw(3), g.N-1))
			wantNear(t, g, x, o, s, max(s-32, 0))
		}
	}
}

// Promises 15.1 to 15.4, P1: the greatest graphs of other shapes, the greatest distances, and a matrix of more members than api.MaxItems.
func TestGreatestOfOtherShapes(t *testing.T) {
	draw := plain.Noise()
	for _, g := range plain.Shapes(draw) {
		for _, n := range []api.Nest{plain.Lopsided(g.N), plain.Halved(g.N)} {
			o, e := overlay.All(g, n, 0)
			wantOK(t, "All", e)
			for range 20 {
				wantNear(t, g, n, o, draw(g.N), draw(g.N))
			}
			wantNear(t, g, n, o, 0, g.N-1)
			wantNear(t, g, n, o, g.N-1, 0)
		}
	}
	way := plain.Long()
	n := plain.Cells([]int{1}, plain.Count(way.N))
	o, e := overlay.All(way, n, 0)
	wantOK(t, "All", e)
	d, e := Dist(way, n, o, 0, way.N-1)
	wantDist(t, "the greatest distance", d, e, (api.MaxVertices-1)*math.MaxUint32)
}

// Promise 15.3: a walk may leave the cell of both its ends and come back into it, pass the cell of one of them in between, and begin and end where no walk leads out.
func TestDetours(t *testing.T) {
	g := api.Graph{N: 5, Arcs: []api.Arc{
		{From: 0, To: 1, Weight: 100}, {From: 0, To: 3, Weight: 1}, {From: 3, To: 1, Weight: 1}, {From: 1, To: 4, Weight: 1}, {From: 4, To: 2, Weight: 1}, {From: 3, To: 3, Weight: 0}, {From: 2, To: 4, Weight: 5},
	}}
	for _, n := range []api.Nest{plain.Cells([]int{3}, []int{0, 0, 0, 1, 2}), plain.Cells([]int{3, 5}, []int{0, 0, 0, 1, 2}, []int{0, 0, 0, 0, 0}), plain.Cells([]int{3, 4}, []int{0, 0, 0, 1, 2}, []int{0, 0, 0, 1, 0}), plain.Cells([]int{1, 2, 4}, []int{0, 1, 2, 3, 4}, []int{0, 1, 2, 0, 1}, []int{0, 1, 1, 0, 1})} {
		o := plain.Overlay(g, n, 0)
		for _, x := range []struct {
			s, t int
			want api.Dist
		}{{0, 1, 2}, {0, 2, 4}, {1, 2, 2}, {3, 4, 2}, {3, 2, 3}, {2, 0, api.Inf}, {1, 3, api.Inf}, {4, 4, 0}, {2, 4, 5}, {0, 4, 3}} {
			if d, gathered := asked(t, g, n, o, x.s, x.t); d != x.want || gathered != x.want {
				t.Error(n, x, d, gathered)
			}
		}
	}
}

// Promise 15.3: of all arcs inside cells of the level 1 no weight is looked at.
func TestGatherLooksAtNoInnerWeight(t *testing.T) {
	draw := plain.Noise()
	for n := 2; n < 30; n++ {
		g, x := plain.Graph(draw, n, 4*n, 50), plain.Nest(draw, n, 1+draw(3))
		o := plain.Overlay(g, x, 0)
		for range 20 {
			s, u := draw(n), draw(n)
			there, direct := plainPiece(g, x, s, u, false)
			back, _ := plainPiece(g, x, u, s, true)
			d, e := Gather(otherInside(draw, g, x), x, o, s, u, there, back, direct)
			wantDist(t, "Gather", d, e, plainDist(g, s, u))
		}
	}
}

// P1, R7: what is not right ends, too, and tells the same again; so do pieces that are none of the query's.
func TestAnyNumbers(t *testing.T) {
	draw := plain.Noise()
	for n := 1; n < 24; n++ {
		for range 30 {
			g, x := plain.Graph(draw, n, draw(5*n), math.MaxInt32), plain.Nest(draw, n, 1+draw(api.MaxLevels))
			o, s, u := plain.Shaken(draw, plain.Overlay(g, x, 0), 3), draw(n), draw(n)
			there, direct := plainPiece(g, x, s, u, false)
			back, _ := plainPiece(g, x, u, s, true)
			for _, l := range [][]api.Dist{there, back} {
				for at := range l {
					l[at] = plain.Dist(draw)
				}
			}
			d, e := Dist(g, x, o, s, u)
			gathered, e2 := Gather(g, x, o, s, u, there, back, direct)
			wantOK(t, "what is not right", e, e2)
			d2, e := Dist(g, x, plain.Copied(o), s, u)
			wantDist(t, "Dist again", d2, e, d)
			d2, e = Gather(g, x, plain.Copied(o), s, u, slices.Clone(there), slices.Clone(back), direct)
			wantDist(t, "Gather again", d2, e, gathered)
		}
	}
}

// somePieces may be those of a query, or not.
func somePieces() [][]api.Dist {
	return [][]api.Dist{nil, {0}, {0, 5}, {0, 5, api.Inf}, make([]api.Dist, api.MaxItems+1)}
}

// Promises 15.1, 15.3, R1, R5: what is no overlay, ahead of vertices and pieces that are wrong.
func TestWrongOverlays(t *testing.T) {
	g, n := plain.Rounds()
	for _, o := range plain.WrongOverlays(g, n) {
		for _, x := range [][2]int{{0, 3}, {-1, 0}, {0, 6}} {
			d, e := Dist(g, n, o, x[0], x[1])
			wantNone(t, "Dist", nil, d, e, api.ErrMatrix)
			for _, piece := range somePieces() {
				d, e = Gather(g, n, o, x[0], x[1], piece, piece, 7)
				wantNone(t, "Gather", nil, d, e, api.ErrMatrix)
			}
		}
	}
}

// Promises 15.1 to 15.3, R1, R5: vertices that there are not, at both places, ahead of pieces and weights that are wrong.
func TestWrongVertices(t *testing.T) {
	g, n := plain.Rounds()
	o := plain.Overlay(g, n, 3)
	for _, wrong := range append(plain.WrongNumbers(), g.N) {
		for _, right := range []int{0, 3, g.N - 1, wrong} {
			for _, x := range [][2]int{{wrong, right}, {right, wrong}} {
				d, e := Dist(g, n, o, x[0], x[1])
				wantNone(t, "Dist", nil, d, e, api.ErrNone)
				for _, piece := range somePieces() {
					d, e = Gather(g, n, o, x[0], x[1], piece, piece, 7)
					wantNone(t, "Gather", nil, d, e, api.ErrNone)
				}
				for _, weights := range [][]uint32{nil, {4}, {2, 9, 7}, make([]uint32, api.MaxItems+1)} {
					for _, back := range []bool{false, true} {
						l, d, e := Piece(g, n, x[0], x[1], back, weights)
						wantNone(t, "Piece", l, d, e, api.ErrNone)
					}
				}
			}
		}
	}
}

// Promise 15.2, R5: other numbers of weights than those of the arcs inside the cell of v, also of more than any list may have.
func TestWrongWeights(t *testing.T) {
	g, n := plain.Rounds()
	for _, many := range []int{0, 1, 2, 3, 4, len(g.Arcs), api.MaxItems, api.MaxItems + 1} {
		// Spare room is none of a list's members, even if it would make their number right.
		weights := make([]uint32, many, many+20)
		for v, inner := range []int{3, 3, 1, 1, 0, 0} {
			for w := range g.N {
				for _, back := range []bool{false, true} {
					l, d, e := Piece(g, n, v, w, back, weights)
					if many != inner {
						wantNone(t, "Piece", l, d, e, api.ErrShape)
					} else {
						wantOK(t, "Piece", e)
					}
				}
			}
		}
	}
}

// Promise 15.3, R5: pieces of other numbers of members, on either side and on both, also of more than any list may have.
func TestWrongPieces(t *testing.T) {
	g, n := plain.Rounds()
	o := plain.Overlay(g, n, 3)
	sizes, numbers := []int{2, 2, 2, 2, 1, 1}, []int{0, 1, 2, 3, 4, 6, api.MaxItems, api.MaxItems + 1}
	for s, rows := range sizes {
		for u, columns := range sizes {
			for _, first := range numbers {
				for _, second := range numbers {
					// Spare room is none of a list's members, even if it would make their number right.
					there, back := make([]api.Dist, first, first+20), make([]api.Dist, second, second+20)
					d, e := Gather(g, n, o, s, u, there, back, 7)
					if first != rows || second != columns {
						wantNone(t, "Gather", nil, d, e, api.ErrShape)
					} else {
						wantOK(t, "Gather", e)
					}
				}
			}
		}
	}
}

// R1, R2, R5: all calls answer what chapter 3's Check refuses, then what chapter 11's Check refuses, ahead of what else is wrong.
func TestWrongGraphsAndNests(t *testing.T) {
	for _, x := range append(plain.WrongGraphs(), plain.WrongNests()...) {
		wantRefused(t, x.G, x.N, x.Want)
	}
}

// wantRefused asks all calls for an error, whatever stands behind the nest.
func wantRefused(t *testing.T, g api.Graph, n api.Nest, want api.Errno) {
	t.Helper()
	for _, x := range [][2]int{{0, 1}, {-1, 0}, {0, math.MaxInt}} {
		for _, o := range [][][]api.Matrix{nil, {nil}, {{{Level: 1}}}, {{{Level: 1, D: []api.Dist{0}}, {Level: 1, Cell: 1, D: []api.Dist{0}}}}, make([][]api.Matrix, api.MaxItems+1)} {
			d, e := Dist(g, n, o, x[0], x[1])
			wantNone(t, "Dist", nil, d, e, want)
			for _, piece := range [][]api.Dist{nil, {0}, make([]api.Dist, api.MaxItems+1)} {
				d, e = Gather(g, n, o, x[0], x[1], piece, piece, 7)
				wantNone(t, "Gather", nil, d, e, want)
			}
		}
		for _, weights := range [][]uint32{nil, {4}, make([]uint32, api.MaxItems+1)} {
			l, d, e := Piece(g, n, x[0], x[1], weights == nil, weights)
			wantNone(t, "Piece", l, d, e, want)
		}
	}
}

// R3: a cell without a boundary has pieces without members, nil or empty; so may be the weights and the matrices' members.
func TestNoMembers(t *testing.T) {
	g := api.Graph{N: 3, Arcs: []api.Arc{{From: 0, To: 2, Weight: 6}}}
	n := plain.Cells([]int{2, 3}, []int{0, 1, 0}, []int{0, 0, 0})
	for _, none := range [][]api.Dist{nil, {}} {
		o := [][]api.Matrix{{{Level: 1, Cell: 0, D: none}, {Level: 1, Cell: 1, D: none}}, {{Level: 2, Cell: 0, D: none}}}
		for s, l := range [][]api.Dist{{0, api.Inf, 6}, {api.Inf, 0, api.Inf}, {api.Inf, api.Inf, 0}} {
			for u, want := range l {
				d, e := Dist(g, n, o, s, u)
				wantDist(t, "Dist", d, e, want)
				d, e = Gather(g, n, o, s, u, none, none, want)
				wantDist(t, "Gather", d, e, want)
			}
		}
	}
	for _, none := range [][]uint32{nil, {}} {
		l, d, e := Piece(g, n, 1, 0, false, none)
		wantPiece(t, "Piece", l, d, e, nil, api.Inf)
		l, d, e = Piece(g, n, 1, 1, true, none)
		wantPiece(t, "Piece", l, d, e, nil, 0)
	}
	l, d, e := Piece(g, n, 0, 2, false, []uint32{6})
	wantPiece(t, "Piece", l, d, e, nil, 6)
}

// R4: what is handed in stays as it was, spare room too, what lies there is not read, and answers are new memory.
func TestMemory(t *testing.T) {
	g, n, o := plain.Roomy(2)
	weights, there, back := []uint32{2, 9, 7, 0, 0}, []api.Dist{0, 2, 0, 0}, []api.Dist{4, 0, 0, 0}
	were, weightsWere, thereWas, backWas := plain.Numbers(g, n, o), slices.Clone(weights), slices.Clone(there), slices.Clone(back)
	var answers [][]api.Dist
	for range 2 {
		d, e := Dist(g, n, o, 0, 3)
		wantDist(t, "Dist", d, e, 6)
		d, e = Gather(g, n, o, 0, 3, there[:2], back[:2], api.Inf)
		wantDist(t, "Gather", d, e, 6)
		for _, turned := range []bool{false, true} {
			l, _, e := Piece(g, n, 0, 1, turned, weights[:3])
			wantOK(t, "Piece", e)
			answers = append(answers, l)
		}
	}
	for i, l := range answers {
		if overlap(l, g.Arcs) || overlap(l, n.Bounds) || overlap(l, weights) || slices.ContainsFunc(n.Cells, func(cells []int) bool { return overlap(l, cells) }) {
			t.Error("an answer shares memory with an argument")
		}
		if slices.ContainsFunc(answers[:i], func(other []api.Dist) bool { return overlap(l, other) }) {
			t.Error("two answers share memory")
		}
		clear(l[:cap(l)])
	}
	if !slices.EqualFunc(were, plain.Numbers(g, n, o), slices.Equal) || !slices.Equal(weights, weightsWere) || !slices.Equal(there, thereWas) || !slices.Equal(back, backWas) {
		t.Error("what was handed in is changed")
	}
}

// R7: the same call tells the same, whatever was called ahead, and whatever room lies behind the lists.
func TestTellsTheSame(t *testing.T) {
	draw := plain.Noise()
	for range 20 {
		n := 4 + draw(40)
		g, x := plain.Graph(draw, n, 3*n, 100), plain.Nest(draw, n, 3)
		o, e := overlay.All(g, x, 1)
		wantOK(t, "All", e)
		s, u := draw(n), draw(n)
		d, gathered := asked(t, g, x, o, s, u)
		piece, direct, e := Piece(g, x, s, u, true, innerWeights(g, x, s))
		wantOK(t, "Piece", e)
		for range 3 {
			other, y := plain.Graph(draw, n, n, 5), plain.Nest(draw, n, 2)
			asked(t, other, y, plain.Overlay(other, y, 0), draw(n), draw(n))
			h := api.Graph{N: n, Arcs: slices.Grow(slices.Clone(g.Arcs), 1+draw(9))}
			if d2, gathered2 := asked(t, h, x, plain.Copied(o), s, u); d2 != d || gathered2 != gathered {
				t.Fatal(d, d2, gathered, gathered2)
			}
			again, direct2, e := Piece(h, x, s, u, true, slices.Grow(innerWeights(g, x, s), 5))
			wantPiece(t, "Piece again", again, direct2, e, piece, direct)
		}
	}
}

// Promises 15.1 to 15.4, P1: graphs, nests, vertices, weights and pieces that are made up.
func FuzzQuery(f *testing.F) {
	f.Add(3, 0, 2, false, []byte{0, 1, 5, 1, 2, 7, 0, 2, 20}, []byte{0, 0, 1}, []byte{5})
	f.Add(4, 1, 0, true, []byte{0, 1, 5, 1, 2, 7, 2, 0, 20, 2, 3, 1, 3, 0, 2}, []byte{0, 0, 1, 2, 0, 0, 0, 1}, []byte{1, 7})
	f.Add(0, -1, 9, false, []byte{255, 3}, []byte{255}, []byte{255})
	f.Add(2, 1, 2, true, []byte{}, []byte{0, 1, 0, 1, 0, 1, 0, 1, 0, 0}, []byte{})
	f.Fuzz(func(t *testing.T, n, s, u int, back bool, ends, labels, numbers []byte) {
		g, x := plain.Read(n, ends, labels)
		if _, e := nest.Check(g, x); e != api.OK {
			wantRefused(t, g, x, e)
			return
		}
		fuzzed(t, g, x, s, u, back, numbers)
	})
}

// fuzzed holds all calls against the plain readings, or against the error that they must answer.
func fuzzed(t *testing.T, g api.Graph, n api.Nest, s, u int, back bool, numbers []byte) {
	o := plain.Overlay(g, n, 0)
	var weights []uint32
	var piece []api.Dist
	for _, x := range numbers {
		weights, piece = append(weights, uint32(x)), append(piece, api.Dist(x))
	}
	d, e := Dist(g, n, o, s, u)
	l, direct, e2 := Piece(g, n, s, u, back, weights)
	gathered, e3 := Gather(g, n, o, s, u, piece, piece, 7)
	if s < 0 || s >= g.N || u < 0 || u >= g.N {
		wantNone(t, "Dist", nil, d, e, api.ErrNone)
		wantNone(t, "Piece", l, direct, e2, api.ErrNone)
		wantNone(t, "Gather", nil, gathered, e3, api.ErrNone)
		return
	}
	want := plainDist(g, s, u)
	wantDist(t, "Dist", d, e, want)
	d, gathered2 := asked(t, g, n, o, s, u)
	if d != want || gathered2 != want {
		t.Error(d, gathered2, want)
	}
	if arcs := plain.Inner(g, n, 1, n.Cells[0][s]); len(arcs) != len(weights) {
		wantNone(t, "Piece", l, direct, e2, api.ErrShape)
	} else {
		h := api.Graph{N: g.N, Arcs: slices.Clone(g.Arcs)}
		for at, id := range arcs {
			h.Arcs[id].Weight = weights[at]
		}
		wanted, wantedDirect := plainPiece(h, n, s, u, back)
		wantPiece(t, "Piece", l, direct, e2, wanted, wantedDirect)
	}
	if len(piece) != len(plain.Boundary(g, n, 1, n.Cells[0][s])) || len(piece) != len(plain.Boundary(g, n, 1, n.Cells[0][u])) {
		wantNone(t, "Gather", nil, gathered, e3, api.ErrShape)
	} else {
		wantOK(t, "Gather", e3)
	}
}
