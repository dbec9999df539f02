package local

import (
	"math"
	"slices"
	"testing"

	"flyover/api"
)

// Promises 10.1 to 10.3: the chapter's examples.
func TestExamples(t *testing.T) {
	g := way(4)
	n, e := Gain(g, []int{0, 1, 0, 0}, 1, 0)
	wantGain(t, "Gain", n, e, 2)
	n, e = Gain(g, []int{0, 0, 1, 1}, 1, 1)
	wantGain(t, "Gain", n, e, 0)
	n, e = Gain(g, []int{0, 1, 0, 0}, 0, 1)
	wantGain(t, "Gain", n, e, 1)
	v, l, some, e := Next(g, []int{0, 1, 0, 0}, 4)
	wantMove(t, "Next", v, l, some, e, 1, 0)
	v, l, some, e = Next(g, []int{0, 0, 1, 1}, 4)
	wantNoMove(t, "Next", v, l, some, e, api.OK)
	v, l, some, e = Next(g, []int{0, 1, 0, 0}, 3)
	wantMove(t, "Next", v, l, some, e, 0, 1)
	better, moves, e := Improve(g, []int{0, 1, 0, 0}, 4, api.MaxItems)
	wantBetter(t, "Improve", better, moves, e, 1, 0, 0, 0, 0)
	better, moves, e = Improve(g, []int{0, 0, 1, 1}, 4, api.MaxItems)
	wantBetter(t, "Improve", better, moves, e, 0, 0, 0, 1, 1)
	better, moves, e = Improve(g, []int{0, 1, 0, 0}, 3, 1)
	wantBetter(t, "Improve", better, moves, e, 1, 0, 0, 1, 1)
}

// Promises 10.1 to 10.3: what is told by hand of a graph with all that a graph may have. Its pairs: 0 3, 0 9, 1 2, 1 5, 1 7, 2 9, 2 10, 3 7, 3 9, 4 8, 5 10.
func TestTangle(t *testing.T) {
	g := tangle()
	labels := []int{0, 0, 1, 1, 1, 1, 2, 0, 1, 2, 1}
	for _, x := range []struct{ v, l, want int }{
		{0, 1, 1}, {0, 2, 1}, {0, 0, 0}, {1, 1, 1}, {1, 2, -1}, {2, 0, 0}, {2, 2, 0}, {3, 0, 2}, {3, 2, 1},
		{4, 0, -1}, {6, 0, 0}, {6, 1, 0}, {7, 1, 0}, {9, 0, 1}, {9, 1, 2}, {10, 0, -2},
	} {
		n, e := Gain(g, labels, x.v, x.l)
		wantGain(t, "Gain", n, e, x.want)
	}
	v, l, some, e := Next(g, labels, 11)
	wantMove(t, "Next under 11", v, l, some, e, 3, 0)
	v, l, some, e = Next(g, labels, 6)
	wantMove(t, "Next under 6", v, l, some, e, 3, 0)
	// 3 to 0 by 2; then 9 has two neighbours in 0 and one in 1: to 0 by 2; then 1 has one in 0 and two in 1: to 1 by 1; then 7 has one in each, and none is open.
	better, moves, e := Improve(g, labels, 11, api.MaxItems)
	wantBetter(t, "Improve", better, moves, e, 3, 0, 1, 1, 0, 1, 1, 2, 0, 1, 0, 1)
	better, moves, e = Improve(g, labels, 11, 1)
	wantBetter(t, "one move", better, moves, e, 1, 0, 0, 1, 0, 1, 1, 2, 0, 1, 2, 1)
}

// Promise 10.2: the greatest gain, of several the least vertex, of these the least label; of what is open alone.
func TestNextChooses(t *testing.T) {
	for name, x := range map[string]struct {
		g           api.Graph
		labels      []int
		bound, v, l int
	}{
		"the greatest gain":                     {arcs(4, 0, 1, 3, 1, 3, 2), []int{0, 1, 1, 2}, 4, 3, 1},
		"the least vertex":                      {arcs(4, 3, 2, 2, 1), []int{0, 1, 2, 3}, 4, 1, 2},
		"the least vertex, to a greater label":  {arcs(4, 0, 3, 1, 0), []int{0, 1, 1, 2}, 4, 0, 1},
		"the least label":                       {arcs(4, 0, 3, 0, 2, 0, 1), []int{0, 1, 2, 3}, 4, 0, 1},
		"the least label, not the first vertex": {arcs(4, 0, 2, 0, 3), []int{0, 1, 2, 1}, 3, 0, 1},
		"the own label takes away":              {arcs(5, 0, 1, 0, 2, 3, 4), []int{0, 0, 1, 2, 3}, 5, 2, 0},
		"a pair by many arcs is one":            {arcs(4, 1, 2, 2, 1, 1, 2, 0, 1), []int{0, 1, 2, 3}, 4, 0, 1},
		"one to itself is none":                 {arcs(3, 2, 2, 1, 1, 2, 2, 0, 1), []int{0, 1, 2}, 3, 0, 1},
		"the label of the most has no room":     {arcs(5, 4, 0, 4, 1, 4, 3, 0, 1, 2, 1), []int{0, 0, 0, 1, 2}, 3, 3, 2},
		"room for just one":                     {arcs(5, 4, 0, 4, 1, 4, 3, 0, 1, 2, 1), []int{0, 0, 0, 1, 2}, 4, 4, 0},
		"a vertex that leaves its label alone":  {arcs(3, 1, 2, 0, 2), []int{0, 0, 1}, 3, 2, 0},
	} {
		v, l, some, e := Next(x.g, x.labels, x.bound)
		wantMove(t, name, v, l, some, e, x.v, x.l)
	}
	for name, x := range map[string]struct {
		g      api.Graph
		labels []int
		bound  int
	}{
		"no neighbour":       {api.Graph{N: 3}, []int{0, 1, 2}, 3},
		"one label":          {crowd(5), make([]int, 5), 5},
		"a gain of 0":        {way(4), []int{0, 0, 1, 1}, 4},
		"a gain below 0":     {arcs(6, 0, 1, 1, 2, 2, 0, 3, 4, 4, 5, 5, 3, 0, 3), []int{0, 0, 0, 1, 1, 1}, 6},
		"all labels full":    {way(4), []int{0, 1, 2, 3}, 1},
		"all labels full, 2": {arcs(4, 0, 2, 0, 3, 1, 2, 1, 3), []int{0, 0, 1, 1}, 2},
	} {
		v, l, some, e := Next(x.g, x.labels, x.bound)
		wantNoMove(t, name, v, l, some, e, api.OK)
		better, moves, e := Improve(x.g, x.labels, x.bound, api.MaxItems)
		wantBetter(t, name, better, moves, e, 0, x.labels...)
	}
}

// Promise 10.3: labels are tidied behind each move, so that the least label may be another one at the next.
func TestImproveTidies(t *testing.T) {
	// 0 goes to 1 by 2; the label 0 begins at 3 then, behind the label 2, which begins at 2: the vertex 5 has one neighbour in each of them.
	g := arcs(8, 0, 1, 0, 4, 5, 3, 5, 2, 3, 7, 2, 6)
	labels := []int{0, 1, 2, 0, 1, 3, 2, 0}
	better, moves, e := Improve(g, labels, 5, 1)
	wantBetter(t, "one move", better, moves, e, 1, 0, 0, 1, 2, 0, 3, 1, 2)
	better, moves, e = Improve(g, labels, 5, 2)
	wantBetter(t, "two moves", better, moves, e, 2, 0, 0, 1, 2, 0, 1, 1, 2)
	v, l, some, e := Next(g, []int{1: 0, 2: 1, 3: 2, 4: 0, 5: 3, 6: 1, 7: 2}, 5)
	wantMove(t, "Next", v, l, some, e, 5, 1)
	// The only vertex of a label leaves it: those behind it are one less then.
	better, moves, e = Improve(arcs(4, 1, 0, 3, 2), []int{0, 1, 2, 2}, 4, 1)
	wantBetter(t, "a label that ends", better, moves, e, 1, 0, 0, 1, 1)
	better, moves, e = Improve(arcs(5, 1, 0, 1, 4), []int{0, 1, 2, 2, 0}, 4, 1)
	wantBetter(t, "a label that ends within", better, moves, e, 1, 0, 0, 1, 1, 0)
}

// bounds are all that may make a difference, and the greatest one.
func bounds(n int) []int {
	l := append(count(min(n, 9) + 2)[1:], api.MaxVertices)
	if n > 9 {
		l = append(l, n/2, n-1, n)
	}
	return l
}

// Promise 10.1: all vertices and labels of many graphs.
func TestGain(t *testing.T) {
	manyLabelled(func(g api.Graph, labels []int) {
		all := plainPairs(g)
		for v := range g.N {
			for l := range slices.Max(labels) + 1 {
				if g.N > 12 && (v+l)%7 > 0 {
					continue
				}
				n, e := Gain(g, labels, v, l)
				wantGain(t, "Gain", n, e, plainGain(all, labels, v, l))
				if l == labels[v] && n != 0 {
					t.Error("of the own label", n)
				}
			}
		}
		if t.Failed() {
			t.Fatalf("of %v of %v", labels, g)
		}
	})
}

// Promise 10.1: vertices and labels that are none.
func TestGainOfNone(t *testing.T) {
	manyLabelled(func(g api.Graph, labels []int) {
		many := slices.Max(labels) + 1
		for _, x := range [][2]int{
			{-1, 0}, {g.N, 0}, {0, -1}, {0, many}, {g.N - 1, many}, {-1, -1}, {g.N, many}, {0, g.N},
			{math.MinInt, 0}, {math.MaxInt, 0}, {0, math.MinInt}, {0, math.MaxInt},
		} {
			if n, e := Gain(g, labels, x[0], x[1]); n != 0 || e != api.ErrNone {
				t.Fatalf("Gain of %v in %v: %d, %v", x, labels, n, e)
			}
		}
		if n, e := Gain(g, labels, g.N-1, many-1); e != api.OK {
			t.Fatalf("Gain of the last ones in %v: %d, %v", labels, n, e)
		}
	})
}

// Promise 10.2: labels of many graphs under many bounds.
func TestNext(t *testing.T) {
	manyLabelled(func(g api.Graph, labels []int) {
		all := plainPairs(g)
		for _, bound := range bounds(g.N) {
			v, l, some, e := Next(g, labels, bound)
			if slices.Max(plainSizes(labels)) > bound {
				wantNoMove(t, "Next", v, l, some, e, api.ErrBound)
			} else if m, is := plainNext(all, labels, bound); is {
				wantMove(t, "Next", v, l, some, e, m.v, m.l)
			} else {
				wantNoMove(t, "Next", v, l, some, e, api.OK)
			}
			if t.Failed() {
				t.Fatalf("of %v under %d of %v", labels, bound, g)
			}
		}
	})
}

// Promise 10.3: labels of many graphs, made better under many bounds, by few moves and by all.
func TestImprove(t *testing.T) {
	manyLabelled(func(g api.Graph, labels []int) {
		for _, bound := range bounds(g.N) {
			for _, most := range []int{0, 1, 3, g.N, api.MaxItems} {
				better, moves, e := Improve(g, labels, bound, most)
				if slices.Max(plainSizes(labels)) > bound {
					wantNone(t, "Improve", better, moves, e, api.ErrBound)
				} else {
					want, wantMoves := plainImprove(g, labels, bound, most)
					wantBetter(t, "Improve", better, moves, e, wantMoves, want...)
				}
				if t.Failed() {
					t.Fatalf("of %v under %d by %d moves of %v", labels, bound, most, g)
				}
			}
		}
	})
}

// Promises 10.1 to 10.4, P1: the greatest graphs, with as many labels as there may be, few, and one.
func TestGreatest(t *testing.T) {
	draw := noise()
	for at, g := range greatGraphs() {
		all := plainPairs(g)
		for _, labels := range [][]int{make([]int, g.N), count(g.N), drawnLabels(draw, g.N, 2), drawnLabels(draw, g.N, 40), drawnLabels(draw, g.N, g.N)} {
			sizes := plainSizes(labels)
			for range 5 {
				v, l := draw(g.N), draw(len(sizes))
				n, e := Gain(g, labels, v, l)
				wantGain(t, "Gain", n, e, plainGain(all, labels, v, l))
			}
			for _, bound := range []int{1, 7, 100, 520, api.MaxVertices} {
				better, moves, e := Improve(g, labels, bound, api.MaxItems)
				if slices.Max(sizes) > bound {
					wantNone(t, "Improve", better, moves, e, api.ErrBound)
					continue
				}
				wantEnd(t, all, g, labels, better, moves, e, bound)
				better, moves, e = Improve(g, labels, bound, 5)
				want, wantMoves := plainImprove(g, labels, bound, 5)
				wantBetter(t, "Improve by 5", better, moves, e, wantMoves, want...)
				if t.Failed() {
					t.Fatalf("graph %d under %d", at, bound)
				}
			}
		}
	}
}

// Promise 10.3: all moves of great graphs, one by one against the plain reading.
func TestGreatestMoveByMove(t *testing.T) {
	draw := noise()
	for at, g := range []api.Graph{town(20), drawn(draw, 300, 900), drawn(draw, 90, 1500), crowd(40), star(300)} {
		for _, most := range []int{g.N, g.N / 3, 12, 3} {
			labels := drawnLabels(draw, g.N, most)
			great := slices.Max(plainSizes(labels))
			for _, bound := range []int{great, great + 2, g.N} {
				better, moves, e := Improve(g, labels, bound, api.MaxItems)
				want, wantMoves := plainImprove(g, labels, bound, api.MaxItems)
				wantBetter(t, "Improve", better, moves, e, wantMoves, want...)
				if t.Failed() {
					t.Fatalf("graph %d under %d", at, bound)
				}
			}
		}
	}
}

// wantEnd asks of what all moves came to what the chapter says of it, without making them once more.
func wantEnd(t *testing.T, all []api.Pair, g api.Graph, labels, better []int, moves int, e api.Errno, bound int) {
	t.Helper()
	if e != api.OK || !isRight(g, better) || slices.Max(plainSizes(better)) > bound {
		t.Errorf("%v, %v: not right, or above %d", better, e, bound)
		return
	}
	if less := between(all, labels) - between(all, better); less < moves || moves == 0 && less != 0 {
		t.Errorf("%d moves leave %d pairs fewer", moves, less)
	}
	if m, some := plainNext(all, better, bound); some {
		t.Errorf("%v is still open", m)
	}
}

// Promise 10.4: each move leaves as many pairs fewer as its gain was, and no size above the bound; Improve makes the moves that Next tells.
func TestFollows(t *testing.T) {
	manyLabelled(func(g api.Graph, labels []int) {
		all := plainPairs(g)
		great := slices.Max(plainSizes(labels))
		for _, bound := range []int{great, great + 1, api.MaxVertices} {
			before, now := between(all, labels), labels
			steps := 0
			for ; ; steps++ {
				v, l, some, e := Next(g, now, bound)
				if e != api.OK {
					t.Fatal(e)
				}
				if !some {
					break
				}
				gain, e := Gain(g, now, v, l)
				if e != api.OK || gain < 1 {
					t.Fatalf("a gain of %d, %v", gain, e)
				}
				better, moves, e := Improve(g, now, bound, 1)
				moved := slices.Clone(now)
				moved[v] = l
				wantBetter(t, "one move", better, moves, e, 1, plainTidy(moved)...)
				if less := between(all, now) - between(all, better); less != gain || slices.Max(plainSizes(better)) > bound {
					t.Fatalf("%v under %d of %v: %v: a gain of %d, %d pairs fewer", now, bound, g, better, gain, less)
				}
				now = better
			}
			if steps > before {
				t.Errorf("%d moves of %d pairs", steps, before)
			}
			better, moves, e := Improve(g, labels, bound, api.MaxItems)
			wantBetter(t, "all moves", better, moves, e, steps, now...)
			better, moves, e = Improve(g, labels, bound, steps)
			wantBetter(t, "just as many", better, moves, e, steps, now...)
			if t.Failed() {
				t.Fatalf("of %v under %d of %v", labels, bound, g)
			}
		}
	})
}

// Promises 10.2, 10.3: a label just at the bound is none above it.
func TestBound(t *testing.T) {
	for n := 3; n < 9; n++ {
		labels := make([]int, n)
		labels[n-1] = 1
		for _, bound := range []int{1, n - 2} {
			v, l, some, e := Next(way(n), labels, bound)
			wantNoMove(t, "a size above the bound", v, l, some, e, api.ErrBound)
			for _, most := range append(wrongMosts(), 0, 5) {
				better, moves, e := Improve(way(n), labels, bound, most)
				wantNone(t, "a size above the bound", better, moves, e, api.ErrBound)
			}
		}
		v, l, some, e := Next(way(n), labels, n-1)
		wantNoMove(t, "a size at the bound", v, l, some, e, api.OK)
		v, l, some, e = Next(way(n), labels, n)
		wantMove(t, "room for one", v, l, some, e, n-1, 0)
	}
	whole := make([]int, api.MaxVertices)
	better, moves, e := Improve(way(api.MaxVertices), whole, api.MaxVertices, api.MaxItems)
	wantBetter(t, "the greatest", better, moves, e, 0, whole...)
	better, moves, e = Improve(way(api.MaxVertices), whole, api.MaxVertices-1, api.MaxItems)
	wantNone(t, "one less", better, moves, e, api.ErrBound)
}

// R1, R5: bounds and numbers of moves that may not be, behind labels that are not right; bounds ahead of sizes above them, these ahead of the number of moves.
func TestWrongBounds(t *testing.T) {
	for _, g := range []api.Graph{way(5), {N: 1}, {N: api.MaxVertices}, tangle()} {
		for _, labels := range [][]int{make([]int, g.N), count(g.N)} {
			for _, bound := range wrongBounds() {
				v, l, some, e := Next(g, labels, bound)
				wantNoMove(t, "Next", v, l, some, e, api.ErrRange)
				for _, most := range append(wrongMosts(), 0, 1, api.MaxItems) {
					better, moves, e := Improve(g, labels, bound, most)
					wantNone(t, "Improve", better, moves, e, api.ErrRange)
				}
			}
			for _, most := range wrongMosts() {
				better, moves, e := Improve(g, labels, api.MaxVertices, most)
				wantNone(t, "Improve", better, moves, e, api.ErrRange)
			}
		}
		for _, bound := range []int{1, api.MaxVertices} {
			if v, l, _, e := Next(g, count(g.N), bound); e != api.OK {
				t.Error(v, l, e)
			}
			for _, most := range []int{0, 1, api.MaxItems} {
				if better, moves, e := Improve(g, count(g.N), bound, most); e != api.OK || len(better) != g.N || moves > most {
					t.Error(better, moves, e)
				}
			}
		}
	}
}

// Promises 10.1 to 10.3, R1: labels that are not right, whatever stands behind them; other numbers of them than N too, however great.
func TestWrongLabels(t *testing.T) {
	for _, g := range []api.Graph{way(5), {N: 1}, {N: api.MaxVertices}, tangle(), crowd(100)} {
		wrong := [][]int{nil, {}, make([]int, g.N-1), make([]int, g.N+1), make([]int, api.MaxItems), make([]int, api.MaxItems+1), count(api.MaxItems + 1)}
		for _, label := range []int{math.MinInt, -1, g.N, g.N + 1, math.MaxInt} {
			for _, at := range []int{0, g.N / 2, g.N - 1} {
				labels := count(g.N)
				labels[at] = label
				wrong = append(wrong, labels)
			}
		}
		if g.N > 1 {
			turned := count(g.N)
			slices.Reverse(turned)
			left := make([]int, g.N)
			left[g.N-1] = 2
			wrong = append(wrong, turned, left)
		}
		for _, labels := range wrong {
			wantRefused(t, "labels", g, labels, api.ErrLabel)
		}
	}
}

// R1, R2, R5: all calls answer what Check refuses, ahead of what else is wrong, and nothing beside it.
func TestWrongGraphs(t *testing.T) {
	for name, x := range map[string]struct {
		g    api.Graph
		want api.Errno
	}{
		"no vertex":           {api.Graph{}, api.ErrRange},
		"N below 0":           {api.Graph{N: math.MinInt}, api.ErrRange},
		"too many vertices":   {api.Graph{N: api.MaxVertices + 1}, api.ErrRange},
		"the greatest N":      {api.Graph{N: math.MaxInt}, api.ErrRange},
		"too many arcs":       {api.Graph{N: 2, Arcs: make([]api.Arc, api.MaxArcs+1)}, api.ErrLong},
		"an end too great":    {api.Graph{N: 2, Arcs: []api.Arc{{To: 1}, {To: 2}}}, api.ErrArc},
		"a beginning below 0": {api.Graph{N: 2, Arcs: []api.Arc{{From: -1}}}, api.ErrArc},
	} {
		for _, labels := range [][]int{nil, {0, 0}, {0, 1}, {1, 0}, {-1}, make([]int, api.MaxVertices+1), make([]int, api.MaxItems+1)} {
			wantRefused(t, name, x.g, labels, x.want)
		}
	}
}

// wantRefused asks all calls for an error, whatever stands behind the labels.
func wantRefused(t *testing.T, name string, g api.Graph, labels []int, want api.Errno) {
	t.Helper()
	for _, v := range []int{math.MinInt, -1, 0, g.N} {
		for _, label := range []int{-1, 0, math.MaxInt} {
			if n, e := Gain(g, labels, v, label); n != 0 || e != want {
				t.Errorf("%s: Gain: %d, %v, want %v", name, n, e, want)
			}
		}
	}
	for _, bound := range append(wrongBounds(), 1, 3, api.MaxVertices) {
		v, l, some, e := Next(g, labels, bound)
		wantNoMove(t, name+": Next", v, l, some, e, want)
		for _, most := range append(wrongMosts(), 0, api.MaxItems) {
			better, moves, e := Improve(g, labels, bound, most)
			wantNone(t, name+": Improve", better, moves, e, want)
		}
	}
}

// Promises 10.1 to 10.3: directions, weights and the order of arcs change nothing, nor do arcs that stand twice.
func TestArcsAlike(t *testing.T) {
	draw := noise()
	for n := 2; n < 40; n++ {
		g := drawn(draw, n, draw(4*n))
		h := api.Graph{N: n}
		for _, a := range slices.Backward(g.Arcs) {
			h.Arcs = append(h.Arcs, api.Arc{From: a.To, To: a.From, Weight: uint32(draw(99))})
			if draw(2) == 0 {
				h.Arcs = append(h.Arcs, a, a, api.Arc{From: a.To, To: a.To})
			}
		}
		labels := drawnLabels(draw, n, 1+n/3)
		bound, v := slices.Max(plainSizes(labels))+draw(3), draw(n)
		gain, e := Gain(g, labels, v, 0)
		again, e2 := Gain(h, labels, v, 0)
		wantGain(t, "Gain", again, max(e, e2), gain)
		better, moves, e := Improve(g, labels, bound, 2*n)
		l, m, e2 := Improve(h, labels, bound, 2*n)
		wantBetter(t, "Improve", l, m, max(e, e2), moves, better...)
	}
}

// R4: what is handed in stays as it was, spare room too, what lies there is not read, and answers are new memory.
func TestMemory(t *testing.T) {
	bad := api.Arc{From: -7, To: -7, Weight: 7}
	room := append(way(6).Arcs, bad, bad)
	g := api.Graph{N: 6, Arcs: room[:len(room)-2]}
	labels := []int{0, 1, 0, 1, 1, 2, -9, 7}
	single := []int{0, 1, 2, 3, 4, 5, 0, -1}
	arcsBefore, labelsBefore, singleBefore := slices.Clone(room), slices.Clone(labels), slices.Clone(single)
	var answers [][]int
	took := func(l []int, _ int, e api.Errno) {
		t.Helper()
		if e != api.OK || len(l) != 6 {
			t.Error(l, e)
		}
		answers = append(answers, l)
	}
	for range 2 {
		took(Improve(g, labels[:6], 6, api.MaxItems))
		took(Improve(g, labels[:6], 3, 0))
		took(Improve(g, labels[:6], 6, 1))
		took(Improve(g, single[:6], 2, 4))
		took(Improve(g, single[:6], 1, 4))
		if n, e := Gain(g, labels[:6], 1, 0); n != 2 || e != api.OK {
			t.Error(n, e)
		}
		v, l, some, e := Next(g, labels[:6], 6)
		wantMove(t, "Next", v, l, some, e, 1, 0)
	}
	for i, l := range answers {
		for _, other := range answers[:i] {
			if overlap(l, other) {
				t.Error("two answers share memory")
			}
		}
		if overlap(l, room) || overlap(l, labels) || overlap(l, single) {
			t.Error("an answer shares memory with what was handed in")
		}
		clear(l[:cap(l)])
	}
	if !slices.Equal(room, arcsBefore) || !slices.Equal(labels, labelsBefore) || !slices.Equal(single, singleBefore) {
		t.Error("what was handed in is changed")
	}
}

// R3: a list without a member may be nil or empty.
func TestEmptyLists(t *testing.T) {
	for _, none := range [][]api.Arc{nil, {}} {
		g := api.Graph{N: 3, Arcs: none}
		n, e := Gain(g, []int{0, 0, 1}, 0, 1)
		wantGain(t, "Gain", n, e, 0)
		v, l, some, e := Next(g, []int{0, 0, 1}, 3)
		wantNoMove(t, "Next", v, l, some, e, api.OK)
		better, moves, e := Improve(g, []int{0, 0, 1}, 3, 9)
		wantBetter(t, "Improve", better, moves, e, 0, 0, 0, 1)
	}
}

// R7: the same call tells the same, whatever was called ahead, and whatever room lies behind the lists.
func TestTellsTheSame(t *testing.T) {
	draw := noise()
	for range 40 {
		n := 2 + draw(80)
		g := drawn(draw, n, 3*n)
		labels, most := drawnLabels(draw, n, 1+draw(n)), draw(n)
		bound := slices.Max(plainSizes(labels)) + draw(4)
		better, moves, _ := Improve(g, labels, bound, most)
		v, l, some, _ := Next(g, labels, bound)
		gain, _ := Gain(g, labels, v, l)
		for range 8 {
			Improve(drawn(draw, n, n), count(n), n, n)
			h := api.Graph{N: n, Arcs: slices.Grow(slices.Clone(g.Arcs), 1+draw(9))}
			again := slices.Grow(slices.Clone(labels), 1+draw(9))
			b, m, e := Improve(h, again, bound, most)
			wantBetter(t, "Improve", b, m, e, moves, better...)
			if v2, l2, some2, e := Next(h, again, bound); v2 != v || l2 != l || some2 != some || e != api.OK {
				t.Error("Next", v2, l2, some2, e, v, l, some)
			}
			n2, e := Gain(h, again, v, l)
			wantGain(t, "Gain", n2, e, gain)
		}
	}
}

// Promises 10.1 to 10.3, P1: graphs, labels, bounds and numbers of moves that are made up.
func FuzzLocal(f *testing.F) {
	f.Add(4, 4, 9, []byte{0, 1, 1, 2, 2, 3}, []byte{0, 1, 0, 0})
	f.Add(4, 3, 1, []byte{0, 1, 1, 2, 2, 3}, []byte{0, 1, 0, 0})
	f.Add(0, -1, -1, []byte{255, 3}, []byte{255})
	f.Add(3, 9, 0, []byte{0, 1, 7, 7}, []byte{0, 2, 1})
	f.Fuzz(func(t *testing.T, n, bound, most int, ends, numbers []byte) {
		n %= 64
		g := api.Graph{N: n}
		for i := 0; i+1 < len(ends) && len(g.Arcs) < api.MaxArcs; i += 2 {
			g.Arcs = append(g.Arcs, api.Arc{From: int(ends[i]) % max(n, 1), To: int(ends[i+1]) % max(n, 1)})
		}
		var labels []int
		for _, b := range numbers {
			labels = append(labels, int(int8(b)))
		}
		fuzzed(t, g, labels, bound, most)
		if n > 0 {
			whole := slices.Repeat([]int{0}, n)
			for v := range min(n, len(labels)) {
				whole[v] = labels[v]
			}
			whole = plainTidy(whole)
			fuzzed(t, g, whole, bound, most)
			fuzzed(t, g, whole, 1+(bound&math.MaxInt)%n, most)
			fuzzed(t, g, whole, slices.Max(plainSizes(whole))+bound&3, most&0xff)
		}
	})
}

// fuzzed holds all calls against the plain readings, or against the errors that they must answer.
func fuzzed(t *testing.T, g api.Graph, labels []int, bound, most int) {
	v, l, some, e := Next(g, labels, bound)
	better, moves, e2 := Improve(g, labels, bound, most)
	wrong := api.OK
	switch {
	case g.N < 1:
		wrong = api.ErrRange
	case len(labels) != g.N || !isRight(g, labels):
		wrong = api.ErrLabel
	case bound < 1 || bound > api.MaxVertices:
		wrong = api.ErrRange
	case slices.Max(plainSizes(labels)) > bound:
		wrong = api.ErrBound
	}
	if wrong != api.OK {
		wantNoMove(t, "Next", v, l, some, e, wrong)
		wantNone(t, "Improve", better, moves, e2, wrong)
		return
	}
	all := plainPairs(g)
	if m, is := plainNext(all, labels, bound); is {
		wantMove(t, "Next", v, l, some, e, m.v, m.l)
		n, e := Gain(g, labels, v, l)
		wantGain(t, "Gain", n, e, plainGain(all, labels, v, l))
	} else {
		wantNoMove(t, "Next", v, l, some, e, api.OK)
	}
	if most < 0 || most > api.MaxItems {
		wantNone(t, "Improve", better, moves, e2, api.ErrRange)
		return
	}
	want, wantMoves := plainImprove(g, labels, bound, most)
	wantBetter(t, "Improve", better, moves, e2, wantMoves, want...)
}
