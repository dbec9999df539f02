package split

import (
	"math"
	"slices"
	"testing"

	"flyover/api"
)

// Promises 9.1, 9.2: the chapter's examples.
func TestExamples(t *testing.T) {
	l, e := CutUp(way(5), make([]int, 5), 2)
	wantList(t, "CutUp", l, e, 0, 0, 1, 1, 2)
	l, e = Join(way(5), count(5), 2)
	wantList(t, "Join", l, e, 0, 0, 1, 1, 2)
	l, e = Join(way(4), []int{0, 0, 0, 1}, 2)
	wantNone(t, "Join", l, e, api.ErrBound)
	l, e = Sizes(way(3), []int{0, 0, 1})
	wantList(t, "Sizes", l, e, 2, 1)
}

// Promises 9.1, 9.2: what is told by hand of a graph with all that a graph may have. Its pairs: 0 3, 0 9, 1 2, 1 5, 1 7, 2 9, 2 10, 3 7, 3 9, 4 8, 5 10.
func TestTangle(t *testing.T) {
	g := tangle()
	// The order is 0, 3, 9, 7, 2, 1, 10, 5, 4, 8, 6.
	l, e := CutUp(g, make([]int, 11), 4)
	wantList(t, "CutUp by 4", l, e, 0, 1, 1, 0, 2, 1, 2, 0, 2, 0, 1)
	l, e = CutUp(g, make([]int, 11), 10)
	wantList(t, "CutUp by 10", l, e, 0, 0, 0, 0, 0, 0, 1, 0, 0, 0, 0)
	// Of the label 0 the order is 0, 3, 7, 4, 8, since 9 is no member; of the label 1 it is 1, 2, 5, 10.
	l, e = CutUp(g, []int{0, 1, 1, 0, 0, 1, 2, 0, 0, 3, 1}, 3)
	wantList(t, "CutUp within labels", l, e, 0, 1, 1, 0, 2, 1, 3, 0, 2, 4, 5)
	l, e = Sizes(g, []int{0, 1, 1, 0, 0, 1, 2, 0, 0, 3, 1})
	wantList(t, "Sizes", l, e, 5, 4, 1, 1)
	// By 2: 0 3, then 1 2, then 4 8, then 5 10 (2 10 and 1 5 are too great by then), 7 and 9 have none left.
	l, e = Join(g, count(11), 2)
	wantList(t, "Join by 2", l, e, 0, 1, 1, 0, 2, 3, 4, 5, 2, 6, 3)
	l, e = Join(g, count(11), 11)
	wantList(t, "Join by 11", l, e, 0, 0, 0, 0, 1, 0, 2, 0, 1, 0, 0)
}

// Promise 9.2: those with the most pairs first, of several the least a, of these the least b; under the bound alone.
func TestJoinChooses(t *testing.T) {
	for name, x := range map[string]struct {
		g      api.Graph
		labels []int
		bound  int
		want   []int
	}{
		"the most pairs":                          {arcs(4, 0, 1, 1, 2, 1, 3), []int{0, 1, 2, 2}, 3, []int{0, 1, 1, 1}},
		"the most pairs, though of greater ones":  {arcs(5, 0, 1, 2, 3, 2, 4), []int{0, 1, 2, 3, 3}, 3, []int{0, 0, 1, 1, 1}},
		"the least a":                             {arcs(4, 3, 2, 2, 1, 1, 0), []int{0, 1, 2, 3}, 2, []int{0, 0, 1, 1}},
		"the least a, though b is greater":        {arcs(4, 1, 2, 0, 3, 2, 3), []int{0, 1, 2, 3}, 2, []int{0, 1, 1, 0}},
		"the least b":                             {arcs(4, 0, 3, 0, 2, 2, 3, 1, 3), []int{0, 1, 2, 3}, 2, []int{0, 1, 0, 1}},
		"the least b, not the least a again":      {arcs(3, 2, 0, 1, 0), []int{0, 1, 2}, 2, []int{0, 0, 1}},
		"a pair by many arcs is one":              {arcs(4, 1, 2, 2, 1, 1, 2, 0, 1, 2, 3), []int{0, 1, 2, 3}, 2, []int{0, 0, 1, 1}},
		"arcs from a vertex to itself are none":   {arcs(3, 2, 2, 1, 1, 2, 2, 0, 1, 1, 2), []int{0, 1, 2}, 2, []int{0, 0, 1}},
		"both sizes just the bound":               {arcs(6, 0, 1, 2, 3, 4, 5, 1, 2, 3, 4), []int{0, 0, 1, 1, 2, 2}, 4, []int{0, 0, 0, 0, 1, 1}},
		"both sizes one above the bound":          {arcs(6, 0, 1, 2, 3, 4, 5, 1, 2, 3, 4), []int{0, 0, 1, 1, 2, 2}, 3, []int{0, 0, 1, 1, 2, 2}},
		"the one with the most pairs has no room": {arcs(6, 0, 2, 0, 3, 0, 4, 1, 5, 5, 0), []int{0, 1, 2, 2, 2, 3}, 3, []int{0, 0, 1, 1, 1, 0}},
		"nothing between":                         {api.Graph{N: 3}, []int{0, 1, 2}, 3, []int{0, 1, 2}},
		"a label need not be connected":           {arcs(4, 0, 2, 1, 3), []int{0, 1, 1, 0}, 4, []int{0, 0, 0, 0}},
	} {
		l, e := Join(x.g, x.labels, x.bound)
		wantList(t, name, l, e, x.want...)
	}
}

// Promise 9.2: what has become one counts the pairs of both. At first 0 and 1 have three pairs; then 2 has one pair with each of them, as many in all as with 3, and more than 4 has with 3: it is joined with the lesser label.
func TestJoinCountsAnew(t *testing.T) {
	g := arcs(12,
		0, 2, 0, 3, 1, 2, // of 0 and 1
		1, 4, 2, 5, // of 0 and 2; of 1 and 2
		5, 6, 5, 7, // of 2 and 3
		8, 6, // of 3 and 4
	)
	labels := []int{0, 0, 1, 1, 2, 2, 3, 3, 4, 5, 6, 7}
	l, e := Join(g, labels, 6)
	wantList(t, "Join by 6", l, e, 0, 0, 0, 0, 0, 0, 1, 1, 1, 2, 3, 4)
	l, e = Join(g, labels, 5)
	wantList(t, "Join by 5", l, e, 0, 0, 0, 0, 1, 1, 1, 1, 1, 2, 3, 4)
	l, e = Join(g, labels, 12)
	wantList(t, "Join by 12", l, e, 0, 0, 0, 0, 0, 0, 0, 0, 0, 1, 2, 3)
}

// Promise 9.1: labels that are right and such that are not, of all lists of few small numbers.
func TestSizes(t *testing.T) {
	for n := 1; n < 5; n++ {
		g := way(n)
		lists(n+1, -1, n+1, func(labels []int) {
			l, e := Sizes(g, labels)
			if len(labels) != n || !isRight(g, labels) {
				wantNone(t, "Sizes", l, e, api.ErrLabel)
				l, e = CutUp(g, labels, 1)
				wantNone(t, "CutUp", l, e, api.ErrLabel)
				l, e = Join(g, labels, 1)
				wantNone(t, "Join", l, e, api.ErrLabel)
			} else {
				wantList(t, "Sizes", l, e, plainSizes(labels)...)
			}
			if t.Failed() {
				t.Fatalf("of %v, %d vertices", labels, n)
			}
		})
	}
	manyLabelled(func(g api.Graph, labels []int) {
		l, e := Sizes(g, labels)
		wantList(t, "Sizes", l, e, plainSizes(labels)...)
	})
}

// lists goes through all lists of at most most numbers from low to high.
func lists(most, low, high int, do func(l []int)) {
	var longer func(l []int)
	longer = func(l []int) {
		do(l)
		if len(l) == most {
			return
		}
		for n := low; n <= high; n++ {
			longer(append(l[:len(l):len(l)], n))
		}
	}
	longer(nil)
}

// bounds are all that may make a difference, and the greatest one.
func bounds(n int) []int {
	l := append(count(min(n, 9) + 2)[1:], api.MaxVertices)
	if n > 9 {
		l = append(l, n/2, n-1, n)
	}
	return l
}

// Promise 9.1: labels of many graphs, cut up under many bounds.
func TestCutUp(t *testing.T) {
	manyLabelled(func(g api.Graph, labels []int) {
		for _, bound := range bounds(g.N) {
			l, e := CutUp(g, labels, bound)
			wantList(t, "CutUp", l, e, plainCutUp(g, labels, bound)...)
			if t.Failed() {
				t.Fatalf("of %v by %d of %v", labels, bound, g)
			}
		}
	})
}

// Promise 9.2: labels of many graphs, put together under many bounds.
func TestJoin(t *testing.T) {
	manyLabelled(func(g api.Graph, labels []int) {
		for _, bound := range bounds(g.N) {
			l, e := Join(g, labels, bound)
			if slices.Max(plainSizes(labels)) > bound {
				wantNone(t, "Join", l, e, api.ErrBound)
			} else {
				wantList(t, "Join", l, e, plainJoin(g, labels, bound)...)
			}
			if t.Failed() {
				t.Fatalf("of %v by %d of %v", labels, bound, g)
			}
		}
	})
}

// Promises 9.1, 9.2, P1: the greatest graphs, with as many labels as there may be, few, and one.
func TestGreatest(t *testing.T) {
	draw := noise()
	for at, g := range greatGraphs() {
		for _, labels := range [][]int{make([]int, g.N), count(g.N), drawnLabels(draw, g.N, 40), drawnLabels(draw, g.N, g.N)} {
			sizes := plainSizes(labels)
			l, e := Sizes(g, labels)
			wantList(t, "Sizes", l, e, sizes...)
			for _, bound := range []int{1, 2, 7, 100, api.MaxVertices - 1, api.MaxVertices} {
				l, e := CutUp(g, labels, bound)
				wantList(t, "CutUp", l, e, plainCutUp(g, labels, bound)...)
				l, e = Join(g, labels, bound)
				switch {
				case slices.Max(sizes) > bound:
					wantNone(t, "Join", l, e, api.ErrBound)
				case bound == 7 || len(sizes) < 100 || g.N < 200:
					wantList(t, "Join", l, e, plainJoin(g, labels, bound)...)
				default:
					wantEnd(t, g, labels, l, bound)
				}
				if t.Failed() {
					t.Fatalf("graph %d by %d", at, bound)
				}
			}
		}
	}
}

// wantEnd asks of what was put together what the chapter says of it, without putting it together once more.
func wantEnd(t *testing.T, g api.Graph, labels, joined []int, bound int) {
	t.Helper()
	if !isRight(g, joined) || slices.Max(plainSizes(joined)) > bound {
		t.Errorf("%v are not right, or above %d", joined, bound)
	}
	for _, members := range membersOf(labels) {
		for _, v := range members {
			if joined[v] != joined[members[0]] {
				t.Errorf("%d and %d had the same label, and have %d and %d", v, members[0], joined[v], joined[members[0]])
			}
		}
	}
	if a, b := nextTwo(plainPairs(g), joined, bound); a >= 0 {
		t.Errorf("%d and %d can still be joined", a, b)
	}
}

// Promise 9.3: what is cut up or put together is right, under the bound; labels that are cut up part those that were; those that are put together hold them, and no two can be joined.
func TestFollows(t *testing.T) {
	manyLabelled(func(g api.Graph, labels []int) {
		for _, bound := range bounds(g.N) {
			pieces, e := CutUp(g, labels, bound)
			if e != api.OK || !isRight(g, pieces) || slices.Max(plainSizes(pieces)) > bound {
				t.Fatalf("CutUp of %v by %d of %v: %v, %v", labels, bound, g, pieces, e)
			}
			for _, members := range membersOf(pieces) {
				for _, v := range members {
					if labels[v] != labels[members[0]] {
						t.Fatalf("CutUp of %v by %d of %v: %v: %d and %d had unlike labels", labels, bound, g, pieces, v, members[0])
					}
				}
			}
			joined, e := Join(g, pieces, bound)
			if e != api.OK {
				t.Fatal(e)
			}
			wantEnd(t, g, pieces, joined, bound)
			again, e := Join(g, joined, bound)
			wantList(t, "Join once more", again, e, joined...)
			again, e = CutUp(g, joined, bound)
			wantList(t, "CutUp of what is under the bound", again, e, joined...)
			if t.Failed() {
				t.Fatalf("of %v by %d of %v", labels, bound, g)
			}
		}
	})
}

// Promise 9.2: a label just at the bound is none above it.
func TestBound(t *testing.T) {
	for n := 2; n < 9; n++ {
		for at := range n {
			labels := make([]int, n)
			for v := at + 1; v < n; v++ {
				labels[v] = 1
			}
			size := max(at+1, n-1-at)
			l, e := Join(way(n), labels, size-1)
			if size == 1 {
				wantNone(t, "a bound of 0", l, e, api.ErrRange)
			} else {
				wantNone(t, "a size above the bound", l, e, api.ErrBound)
			}
			l, e = Join(way(n), labels, size)
			wantList(t, "a size at the bound", l, e, labels...)
		}
	}
	l, e := Join(way(api.MaxVertices), make([]int, api.MaxVertices), api.MaxVertices)
	wantList(t, "the greatest", l, e, make([]int, api.MaxVertices)...)
	l, e = Join(way(api.MaxVertices), make([]int, api.MaxVertices), api.MaxVertices-1)
	wantNone(t, "one less", l, e, api.ErrBound)
}

// R1, R5: bounds that may not be, behind labels that are not right, and ahead of sizes above them.
func TestWrongBounds(t *testing.T) {
	for _, g := range []api.Graph{way(5), {N: 1}, {N: api.MaxVertices}, tangle()} {
		for _, bound := range wrongBounds() {
			for _, labels := range [][]int{make([]int, g.N), count(g.N)} {
				l, e := CutUp(g, labels, bound)
				wantNone(t, "CutUp", l, e, api.ErrRange)
				l, e = Join(g, labels, bound)
				wantNone(t, "Join", l, e, api.ErrRange)
			}
		}
		for _, bound := range []int{1, api.MaxVertices} {
			l, e := Join(g, count(g.N), bound)
			if e != api.OK || len(l) != g.N {
				t.Error(l, e)
			}
			l, e = CutUp(g, count(g.N), bound)
			wantList(t, "CutUp", l, e, count(g.N)...)
		}
	}
}

// Promises 9.1, 9.2, R1: labels that are not right, whatever the bound is; other numbers of them than N too, however great.
func TestWrongLabels(t *testing.T) {
	for _, g := range []api.Graph{way(5), {N: 1}, {N: api.MaxVertices}, tangle(), crowd(100)} {
		wrong := [][]int{nil, {}, make([]int, g.N-1), make([]int, g.N+1), make([]int, api.MaxItems), make([]int, api.MaxItems+1), count(api.MaxItems + 1)}
		for _, label := range []int{math.MinInt, -1, g.N, g.N + 1, math.MaxInt} {
			for _, at := range []int{0, g.N / 2, g.N - 1} {
				labels := count(g.N)
				labels[at] = label
				wrong = append(wrong, labels)
			}
		}
		if g.N > 1 {
			turned := count(g.N)
			slices.Reverse(turned)
			left := make([]int, g.N)
			left[g.N-1] = 2
			wrong = append(wrong, turned, left)
		}
		for _, labels := range wrong {
			l, e := Sizes(g, labels)
			wantNone(t, "Sizes", l, e, api.ErrLabel)
			for _, bound := range append(wrongBounds(), 1, 3, api.MaxVertices) {
				l, e := CutUp(g, labels, bound)
				wantNone(t, "CutUp", l, e, api.ErrLabel)
				l, e = Join(g, labels, bound)
				wantNone(t, "Join", l, e, api.ErrLabel)
			}
		}
	}
}

// R1, R2, R5: all calls answer what Check refuses, ahead of what else is wrong, and nothing beside it.
func TestWrongGraphs(t *testing.T) {
	for name, x := range map[string]struct {
		g    api.Graph
		want api.Errno
	}{
		"no vertex":           {api.Graph{}, api.ErrRange},
		"N below 0":           {api.Graph{N: math.MinInt}, api.ErrRange},
		"too many vertices":   {api.Graph{N: api.MaxVertices + 1}, api.ErrRange},
		"the greatest N":      {api.Graph{N: math.MaxInt}, api.ErrRange},
		"too many arcs":       {api.Graph{N: 2, Arcs: make([]api.Arc, api.MaxArcs+1)}, api.ErrLong},
		"an end too great":    {api.Graph{N: 2, Arcs: []api.Arc{{To: 1}, {To: 2}}}, api.ErrArc},
		"a beginning below 0": {api.Graph{N: 2, Arcs: []api.Arc{{From: -1}}}, api.ErrArc},
	} {
		for _, labels := range [][]int{nil, {0, 0}, {0, 1}, {1, 0}, {-1}, make([]int, api.MaxVertices+1), make([]int, api.MaxItems+1)} {
			l, e := Sizes(x.g, labels)
			wantNone(t, name+": Sizes", l, e, x.want)
			for _, bound := range append(wrongBounds(), 1, 2, api.MaxVertices) {
				l, e := CutUp(x.g, labels, bound)
				wantNone(t, name+": CutUp", l, e, x.want)
				l, e = Join(x.g, labels, bound)
				wantNone(t, name+": Join", l, e, x.want)
			}
		}
	}
}

// Promises 9.1, 9.2: directions, weights and the order of arcs change nothing, nor do arcs that stand twice.
func TestArcsAlike(t *testing.T) {
	draw := noise()
	for n := 2; n < 40; n++ {
		g := drawn(draw, n, draw(4*n))
		h := api.Graph{N: n}
		for _, a := range slices.Backward(g.Arcs) {
			h.Arcs = append(h.Arcs, api.Arc{From: a.To, To: a.From, Weight: uint32(draw(99))})
			if draw(2) == 0 {
				h.Arcs = append(h.Arcs, a, a, api.Arc{From: a.To, To: a.To})
			}
		}
		labels, bound := drawnLabels(draw, n, 1+n/3), 1+draw(n)
		pieces, e := CutUp(g, labels, bound)
		l, e2 := CutUp(h, labels, bound)
		wantList(t, "CutUp", l, max(e, e2), pieces...)
		joined, e := Join(g, pieces, bound)
		l, e2 = Join(h, pieces, bound)
		wantList(t, "Join", l, max(e, e2), joined...)
	}
}

// R4: what is handed in stays as it was, spare room too, what lies there is not read, and answers are new memory.
func TestMemory(t *testing.T) {
	bad := api.Arc{From: -7, To: -7, Weight: 7}
	room := append(way(6).Arcs, bad, bad)
	g := api.Graph{N: 6, Arcs: room[:len(room)-2]}
	labels := []int{0, 0, 0, 1, 1, 2, -9, 7}
	single := []int{0, 1, 2, 3, 4, 5, 0, -1}
	arcsBefore, labelsBefore, singleBefore := slices.Clone(room), slices.Clone(labels), slices.Clone(single)
	var answers [][]int
	took := func(l []int, e api.Errno) {
		t.Helper()
		if e != api.OK || len(l) == 0 {
			t.Error(l, e)
		}
		answers = append(answers, l)
	}
	for range 2 {
		took(Sizes(g, labels[:6]))
		took(Sizes(g, single[:6]))
		took(CutUp(g, labels[:6], 2))
		took(CutUp(g, labels[:6], 3))
		took(Join(g, labels[:6], 3))
		took(Join(g, single[:6], 2))
		took(Join(g, single[:6], 1))
	}
	for i, l := range answers {
		for _, other := range answers[:i] {
			if overlap(l, other) {
				t.Error("two answers share memory")
			}
		}
		if overlap(l, room) || overlap(l, labels) || overlap(l, single) {
			t.Error("an answer shares memory with what was handed in")
		}
		clear(l[:cap(l)])
	}
	if !slices.Equal(room, arcsBefore) || !slices.Equal(labels, labelsBefore) || !slices.Equal(single, singleBefore) {
		t.Error("what was handed in is changed")
	}
}

// R3: a list without a member may be nil or empty.
func TestEmptyLists(t *testing.T) {
	for _, none := range [][]api.Arc{nil, {}} {
		g := api.Graph{N: 3, Arcs: none}
		l, e := Join(g, []int{0, 0, 1}, 3)
		wantList(t, "Join", l, e, 0, 0, 1)
		l, e = CutUp(g, []int{0, 1, 0}, 1)
		wantList(t, "CutUp", l, e, 0, 1, 2)
		l, e = Sizes(g, []int{0, 1, 0})
		wantList(t, "Sizes", l, e, 2, 1)
	}
}

// R7: the same call tells the same, whatever was called ahead, and whatever room lies behind the lists.
func TestTellsTheSame(t *testing.T) {
	draw := noise()
	for range 40 {
		n := 2 + draw(80)
		g := drawn(draw, n, 3*n)
		labels, bound := drawnLabels(draw, n, 1+draw(n)), 1+draw(n)
		pieces, _ := CutUp(g, labels, bound)
		joined, _ := Join(g, pieces, bound)
		sizes, _ := Sizes(g, labels)
		for range 4 {
			Join(drawn(draw, n, n), count(n), n)
			h := api.Graph{N: n, Arcs: slices.Grow(slices.Clone(g.Arcs), 1+draw(9))}
			l, e := CutUp(h, slices.Grow(slices.Clone(labels), 1+draw(9)), bound)
			wantList(t, "CutUp", l, e, pieces...)
			l, e = Join(h, slices.Grow(slices.Clone(pieces), 1+draw(9)), bound)
			wantList(t, "Join", l, e, joined...)
			l, e = Sizes(h, slices.Grow(slices.Clone(labels), 1+draw(9)))
			wantList(t, "Sizes", l, e, sizes...)
		}
	}
}

// Promises 9.1 to 9.3, P1: graphs, labels and bounds that are made up.
func FuzzSplit(f *testing.F) {
	f.Add(5, 2, []byte{0, 1, 1, 2, 2, 3, 3, 4}, []byte{0, 0, 0, 0, 0})
	f.Add(4, 3, []byte{0, 1, 1, 2, 1, 3}, []byte{0, 1, 2, 2})
	f.Add(0, -1, []byte{255, 3}, []byte{255})
	f.Add(3, 9, []byte{0, 1, 7, 7}, []byte{0, 2, 1})
	f.Fuzz(func(t *testing.T, n, bound int, ends, numbers []byte) {
		n %= 64
		g := api.Graph{N: n}
		for i := 0; i+1 < len(ends) && len(g.Arcs) < api.MaxArcs; i += 2 {
			g.Arcs = append(g.Arcs, api.Arc{From: int(ends[i]) % max(n, 1), To: int(ends[i+1]) % max(n, 1)})
		}
		var labels []int
		for _, b := range numbers {
			labels = append(labels, int(int8(b)))
		}
		fuzzed(t, g, labels, bound)
		if n > 0 {
			whole := slices.Repeat([]int{0}, n)
			for v := range min(n, len(labels)) {
				whole[v] = labels[v]
			}
			fuzzed(t, g, plainTidy(whole), bound)
			fuzzed(t, g, plainTidy(whole), 1+(bound&math.MaxInt)%n)
		}
	})
}

// fuzzed holds all calls against the plain readings, or against the errors that they must answer.
func fuzzed(t *testing.T, g api.Graph, labels []int, bound int) {
	sizes, e1 := Sizes(g, labels)
	pieces, e2 := CutUp(g, labels, bound)
	joined, e3 := Join(g, labels, bound)
	wrong := api.OK
	if g.N < 1 {
		wrong = api.ErrRange
	} else if len(labels) != g.N || !isRight(g, labels) {
		wrong = api.ErrLabel
	}
	if wrong != api.OK {
		wantNone(t, "Sizes", sizes, e1, wrong)
	} else {
		wantList(t, "Sizes", sizes, e1, plainSizes(labels)...)
	}
	if wrong == api.OK && (bound < 1 || bound > api.MaxVertices) {
		wrong = api.ErrRange
	}
	if wrong != api.OK {
		wantNone(t, "CutUp", pieces, e2, wrong)
		wantNone(t, "Join", joined, e3, wrong)
		return
	}
	wantList(t, "CutUp", pieces, e2, plainCutUp(g, labels, bound)...)
	if slices.Max(plainSizes(labels)) > bound {
		wantNone(t, "Join", joined, e3, api.ErrBound)
		return
	}
	wantList(t, "Join", joined, e3, plainJoin(g, labels, bound)...)
}
