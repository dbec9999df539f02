package near

import (
	"math"
	"slices"
	"testing"

	"flyover/api"
)

// Promises 5.1 to 5.4: the chapter's examples.
func TestExamples(t *testing.T) {
	g := triangle()
	far, e := From(g, 0)
	wantDists(t, "From(0)", far, e, 0, 5, 12)
	far, e = To(g, 2)
	wantDists(t, "To(2)", far, e, 12, 7, 0)
	far, e = Within(g, 0, []bool{true, false, true})
	wantDists(t, "Within(0)", far, e, 0, api.Inf, 20)
	d, e := Between(g, 0, 2)
	wantDist(t, "Between(0, 2)", d, e, 12)
	d, e = Between(g, 2, 0)
	wantDist(t, "Between(2, 0)", d, e, api.Inf)
	arcs, d, e := Walk(g, 0, 2)
	wantDist(t, "Walk(0, 2)", d, e, 12)
	if !slices.Equal(arcs, []int{0, 1}) {
		t.Errorf("Walk(0, 2): %v", arcs)
	}
	d, e = Length(g, 0, 2, []int{2})
	wantDist(t, "Length(0, 2)", d, e, 20)
	d, e = Length(g, 1, 1, nil)
	wantDist(t, "Length(1, 1)", d, e, 0)
	wantNoLength(t, "too short", g, 0, 2, []int{0}, api.ErrShape)
	wantNoLength(t, "no id", g, 0, 2, []int{3}, api.ErrNone)
	wantNoLength(t, "no arc", g, 0, 1, nil, api.ErrShape)
}

// Promises 5.1, 5.3: what is told by hand of a graph with all that a graph may have.
func TestTangle(t *testing.T) {
	g := tangle()
	const great = math.MaxUint32
	far, e := From(g, 0)
	wantDists(t, "From(0)", far, e, 0, great-1, api.Inf, great-1, great-1, great+2, great+1, api.Inf)
	far, e = From(g, 3)
	wantDists(t, "From(3)", far, e, api.Inf, 0, api.Inf, 0, 0, 3, 2, api.Inf)
	far, e = From(g, 7)
	wantDists(t, "From(7)", far, e, api.Inf, api.Inf, api.Inf, api.Inf, api.Inf, api.Inf, api.Inf, 0)
	far, e = To(g, 5)
	wantDists(t, "To(5)", far, e, great+2, 3, api.Inf, 3, 3, 0, 1, api.Inf)
	far, e = To(g, 0)
	wantDists(t, "To(0)", far, e, 0, api.Inf, api.Inf, api.Inf, api.Inf, api.Inf, api.Inf, api.Inf)
	far, e = Within(g, 1, []bool{true, true, true, true, false, true, true, true})
	wantDists(t, "Within(1)", far, e, api.Inf, 0, api.Inf, 0, api.Inf, 3, 2, api.Inf)
	arcs, d, e := Walk(g, 0, 5)
	wantDist(t, "Walk(0, 5)", d, e, great+2)
	wantWalk(t, g, 0, 5, arcs, d)
}

// wantAll holds all calls that tell distances of a graph against the plain reading.
func wantAll(t *testing.T, g api.Graph, s int) {
	t.Helper()
	want := plainFrom(g, s)
	far, e := From(g, s)
	wantDists(t, "From", far, e, want...)
	far, e = To(turned(g), s)
	wantDists(t, "To", far, e, want...)
	far, e = Within(g, s, all(g.N))
	wantDists(t, "Within all", far, e, want...)
	for end, d := range want {
		got, e := Between(g, s, end)
		wantDist(t, "Between", got, e, d)
		arcs, got, e := Walk(g, s, end)
		wantDist(t, "Walk", got, e, d)
		if d == api.Inf {
			if len(arcs) != 0 {
				t.Errorf("Walk of %d, %d: %v, where there is none", s, end, arcs)
			}
			continue
		}
		wantWalk(t, g, s, end, arcs, d)
		got, e = Length(g, s, end, arcs)
		wantDist(t, "Length", got, e, d)
	}
	if t.Failed() {
		t.Fatalf("from %d of %v", s, g)
	}
}

// Promises 5.1, 5.3, 5.4: distances and walks of all vertices of many graphs.
func TestManyGraphs(t *testing.T) {
	manyGraphs(func(g api.Graph) {
		for s := range g.N {
			wantAll(t, g, s)
		}
	})
}

// Promise 5.2: distances within all or some vertices of many graphs.
func TestWithin(t *testing.T) {
	draw := noise()
	manyGraphs(func(g api.Graph) {
		masks(draw, g.N, func(in []bool) {
			for s := range g.N {
				far, e := Within(g, s, in)
				wantDists(t, "Within", far, e, plainWithin(g, s, in)...)
			}
		})
	})
}

// Promise 5.2: a vertex that is not marked is no way through, nor an end, nor a beginning.
func TestWithinNone(t *testing.T) {
	g := street(5, 2)
	const no = api.Inf
	for _, x := range []struct {
		s    int
		in   []bool
		want []api.Dist
	}{
		{0, []bool{true, true, true, true, true}, []api.Dist{0, 2, 4, 6, 8}},
		{0, []bool{true, true, false, true, true}, []api.Dist{0, 2, no, no, no}},
		{0, []bool{true, true, true, true, false}, []api.Dist{0, 2, 4, 6, no}},
		{0, []bool{false, true, true, true, true}, []api.Dist{no, no, no, no, no}},
		{2, []bool{false, false, true, false, false}, []api.Dist{no, no, 0, no, no}},
		{2, []bool{true, true, false, true, true}, []api.Dist{no, no, no, no, no}},
		{4, []bool{false, false, false, false, true}, []api.Dist{no, no, no, no, 0}},
		{4, make([]bool, 5), []api.Dist{no, no, no, no, no}},
	} {
		far, e := Within(g, x.s, x.in)
		wantDists(t, "Within", far, e, x.want...)
	}
}

// Promise 5.2: another number of members, also of more than any list may have, whether s is marked or not.
func TestWithinShape(t *testing.T) {
	for _, g := range []api.Graph{triangle(), tangle(), {N: 1}, {N: api.MaxVertices}} {
		for _, size := range []int{0, 1, g.N - 1, g.N + 1, len(g.Arcs), api.MaxVertices, api.MaxItems, api.MaxItems + 1} {
			if size == g.N {
				continue
			}
			// Spare room is none of a list's members, even if it would make their number right.
			marked := slices.Grow(all(size), api.MaxVertices)
			for _, in := range [][]bool{marked, make([]bool, size, size+g.N)} {
				if far, e := Within(g, 0, in); e != api.ErrShape || len(far) != 0 {
					t.Errorf("Within of %d vertices and %d members: %v, %v", g.N, size, far, e)
				}
			}
		}
	}
}

// Promise 5.3: from a vertex to itself there is no arc and 0, even where arcs go round for nothing.
func TestWalkToItself(t *testing.T) {
	for _, g := range []api.Graph{triangle(), tangle(), {N: 1}, {N: 1, Arcs: make([]api.Arc, api.MaxArcs)}} {
		for v := range g.N {
			arcs, d, e := Walk(g, v, v)
			wantDist(t, "Walk to itself", d, e, 0)
			if len(arcs) != 0 {
				t.Errorf("Walk from %d to itself: %v", v, arcs)
			}
			d, e = Between(g, v, v)
			wantDist(t, "Between itself", d, e, 0)
		}
	}
}

// Promise 5.3: where arcs have no weight, all walks are as short, and still no vertex comes twice.
func TestWalkWithoutWeights(t *testing.T) {
	draw := noise()
	for n := 2; n < 40; n++ {
		g := drawn(draw, n, 4*n, 0)
		for s := range g.N {
			wantAll(t, g, s)
		}
	}
}

// Promises 5.1, 5.3: the greatest graphs, and lengths above 32 bits.
func TestGreatest(t *testing.T) {
	const most, great = api.MaxVertices - 1, math.MaxUint32
	draw := noise()
	g := street(api.MaxVertices, great)
	far, e := From(g, 0)
	back, e2 := To(g, most)
	if e != api.OK || e2 != api.OK || len(far) != api.MaxVertices || len(back) != api.MaxVertices {
		t.Fatal(len(far), e, len(back), e2)
	}
	for v := range far {
		if far[v] != api.Dist(v)*great || back[v] != api.Dist(most-v)*great {
			t.Errorf("of %d: %d, %d", v, far[v], back[v])
		}
	}
	arcs, d, e := Walk(g, 0, most)
	wantDist(t, "Walk", d, e, most*great)
	wantWalk(t, g, 0, most, arcs, most*great)
	d, e = Between(g, 0, most)
	wantDist(t, "Between", d, e, most*great)
	for _, g := range []api.Graph{drawn(draw, api.MaxVertices, api.MaxArcs, 1<<20), drawn(draw, api.MaxVertices, api.MaxVertices, 3), town(draw, 32), {N: api.MaxVertices}} {
		wantAll(t, g, 0)
		wantAll(t, g, most)
	}
	in := all(api.MaxVertices)
	in[draw(most)], in[draw(most)] = false, false
	g = town(draw, 32)
	far, e = Within(g, most, in)
	wantDists(t, "Within", far, e, plainWithin(g, most, in)...)
}

// Promise 5.1: the search from both ends does not end at the first vertex where both meet: by fewer arcs it may be farther.
func TestBetweenMeets(t *testing.T) {
	for direct := range uint32(14) {
		g := api.Graph{N: 6, Arcs: []api.Arc{
			{From: 0, To: 1, Weight: 5}, {From: 1, To: 5, Weight: direct},
			{From: 0, To: 2, Weight: 2}, {From: 2, To: 3, Weight: 2}, {From: 3, To: 4, Weight: 2}, {From: 4, To: 5, Weight: 2},
		}}
		d, e := Between(g, 0, 5)
		wantDist(t, "Between", d, e, min(8, 5+api.Dist(direct)))
	}
	// All weights of two ways that cross.
	for code := range 1 << 14 {
		weight := func(i int) uint32 { return uint32(code>>(2*i)) & 3 }
		g := api.Graph{N: 6, Arcs: []api.Arc{
			{From: 0, To: 1, Weight: weight(0)}, {From: 1, To: 2, Weight: weight(1)}, {From: 2, To: 5, Weight: weight(2)},
			{From: 0, To: 3, Weight: weight(3)}, {From: 3, To: 4, Weight: weight(4)}, {From: 4, To: 5, Weight: weight(5)},
			{From: 1, To: 4, Weight: weight(6)},
		}}
		d, e := Between(g, 0, 5)
		wantDist(t, "Between", d, e, plainFrom(g, 0)[5])
	}
}

// Promise 5.4: of all short lists of arcs of a graph just the walks have a length.
func TestLengthOfAll(t *testing.T) {
	g := api.Graph{N: 3, Arcs: append(triangle().Arcs, api.Arc{From: 1, To: 1, Weight: 1}, api.Arc{From: 2, To: 0, Weight: 30})}
	var grow func(arcs []int, ends [][2]int, total api.Dist)
	grow = func(arcs []int, ends [][2]int, total api.Dist) {
		for s := range g.N {
			for end := range g.N {
				if slices.Contains(ends, [2]int{s, end}) {
					d, e := Length(g, s, end, arcs)
					wantDist(t, "Length", d, e, total)
				} else {
					wantNoLength(t, "no walk", g, s, end, arcs, api.ErrShape)
				}
			}
		}
		if len(arcs) == 4 {
			return
		}
		for id, arc := range g.Arcs {
			var longer [][2]int
			for _, end := range ends {
				if end[1] == arc.From {
					longer = append(longer, [2]int{end[0], arc.To})
				}
			}
			grow(append(arcs[:len(arcs):len(arcs)], id), longer, total+api.Dist(arc.Weight))
		}
	}
	grow(nil, [][2]int{{0, 0}, {1, 1}, {2, 2}}, 0)
}

// Promise 5.4: ids that are none, at all places, also where the list is no walk anyway, and one behind the arcs' end in their spare room.
func TestLengthNone(t *testing.T) {
	g := triangle()
	for _, id := range []int{math.MinInt, -1, 3, 4, api.MaxArcs, math.MaxInt} {
		wantNoLength(t, "alone", g, 0, 0, []int{id}, api.ErrNone)
		for at := range 3 {
			walk, other := []int{0, 1, 1}, []int{2, 2, 2}
			walk[at], other[at] = id, id
			wantNoLength(t, "in a walk", g, 0, 2, walk, api.ErrNone)
			wantNoLength(t, "in none", g, 0, 2, other, api.ErrNone)
		}
	}
	wantNoLength(t, "no arcs", api.Graph{N: 2}, 0, 1, []int{0}, api.ErrNone)
	wantNoLength(t, "spare room", api.Graph{N: 3, Arcs: g.Arcs[:2]}, 0, 2, []int{2}, api.ErrNone)
}

// Promise 5.4, R2: as many arcs as a list may have, and one more, whatever stands in them.
func TestLengthLong(t *testing.T) {
	g := api.Graph{N: 2, Arcs: []api.Arc{{From: 0, To: 0, Weight: math.MaxUint32}, {From: 0, To: 1, Weight: 1}}}
	arcs := make([]int, api.MaxItems+1)
	d, e := Length(g, 0, 0, arcs[:api.MaxItems])
	wantDist(t, "the longest", d, e, api.MaxItems*math.MaxUint32)
	wantNoLength(t, "one more", g, 0, 0, arcs, api.ErrLong)
	wantNoLength(t, "one more, no walk", g, 1, 0, arcs, api.ErrLong)
	arcs[0] = 2
	wantNoLength(t, "one more, no id", g, 0, 0, arcs, api.ErrLong)
	wantNoLength(t, "the longest, no id", g, 0, 0, arcs[:api.MaxItems], api.ErrNone)
	wantNoLength(t, "one more, s is none", g, 2, 0, arcs, api.ErrNone)
	wantNoLength(t, "one more, t is none", g, 0, -1, arcs, api.ErrNone)
	arcs[0], arcs[api.MaxItems-1] = 0, 1
	d, e = Length(g, 0, 1, arcs[:api.MaxItems])
	wantDist(t, "the longest, and on", d, e, (api.MaxItems-1)*math.MaxUint32+1)
	wantNoLength(t, "the longest, to another one", g, 0, 0, arcs[:api.MaxItems], api.ErrShape)
}

// Promises 5.1 to 5.4, R1, R5: all calls answer what Check refuses, ahead of what else is wrong, and nothing beside it.
func TestWrongGraphs(t *testing.T) {
	many := make([]api.Arc, api.MaxArcs+1)
	for name, x := range map[string]struct {
		g    api.Graph
		want api.Errno
	}{
		"no vertex":           {api.Graph{}, api.ErrRange},
		"N below 0":           {api.Graph{N: math.MinInt}, api.ErrRange},
		"too many vertices":   {api.Graph{N: api.MaxVertices + 1}, api.ErrRange},
		"the greatest N":      {api.Graph{N: math.MaxInt}, api.ErrRange},
		"too many arcs":       {api.Graph{N: 2, Arcs: many}, api.ErrLong},
		"an end too great":    {api.Graph{N: 2, Arcs: []api.Arc{{To: 1}, {To: 2}}}, api.ErrArc},
		"a beginning below 0": {api.Graph{N: 2, Arcs: []api.Arc{{From: -1}}}, api.ErrArc},
	} {
		for _, v := range []int{0, 1, 2, -1, math.MinInt, math.MaxInt} {
			for _, in := range [][]bool{nil, {true, true}, make([]bool, api.MaxItems+1)} {
				wantErrors(t, name, x.g, v, v, in, x.want, x.want, x.want, x.want)
			}
			for _, arcs := range [][]int{nil, {0}, {-1}, make([]int, api.MaxItems+1)} {
				wantNoLength(t, name, x.g, v, v, arcs, x.want)
			}
		}
	}
}

// Promises 5.1 to 5.4, R1, R5: vertices that are none, ahead of a list that is not right.
func TestWrongVertices(t *testing.T) {
	const none = api.ErrNone
	for _, g := range []api.Graph{triangle(), {N: 3}, {N: api.MaxVertices, Arcs: triangle().Arcs}} {
		long := make([]int, api.MaxItems+1)
		for _, v := range []int{math.MinInt, -g.N, -1, g.N, g.N + 1, api.MaxItems, math.MaxInt} {
			for _, in := range [][]bool{nil, all(g.N), all(g.N + 1), all(api.MaxItems + 1)} {
				wantIn := api.ErrShape
				if len(in) == g.N {
					wantIn = api.OK
				}
				wantErrors(t, "no s", g, v, 0, in, none, api.OK, none, none)
				wantErrors(t, "no t", g, 0, v, in, api.OK, none, none, wantIn)
				wantErrors(t, "neither", g, v, v, in, none, none, none, none)
			}
			for _, arcs := range [][]int{nil, {0}, {9}, long} {
				wantNoLength(t, "no s", g, v, 0, arcs, none)
				wantNoLength(t, "no t", g, 0, v, arcs, none)
				wantNoLength(t, "neither", g, v, v, arcs, none)
			}
		}
	}
}

// Promise 5.5: no arc goes farther than its weight, and each finite distance is that to the beginning of some arc, and its weight.
func TestDistancesAreOfWalks(t *testing.T) {
	manyGraphs(func(g api.Graph) {
		for s := range g.N {
			far, e := From(g, s)
			if e != api.OK || far[s] != 0 {
				t.Fatalf("From %d of %v: %v, %v", s, g, far, e)
			}
			by := make([]bool, g.N)
			for _, arc := range g.Arcs {
				if far[arc.From] == api.Inf {
					continue
				}
				d := far[arc.From] + api.Dist(arc.Weight)
				if far[arc.To] > d {
					t.Errorf("From %d of %v: %v: farther than by %v", s, g, far, arc)
				}
				by[arc.To] = by[arc.To] || far[arc.To] == d
			}
			for v, d := range far {
				if d != api.Inf && v != s && !by[v] {
					t.Errorf("From %d of %v: %v: no arc comes so to %d", s, g, far, v)
				}
			}
		}
	})
}

// Promise 5.6: what is from s to t is, turned about, from t to s.
func TestTurnedAbout(t *testing.T) {
	manyGraphs(func(g api.Graph) {
		h := turned(g)
		for s := range g.N {
			far, e := From(g, s)
			to, e2 := To(h, s)
			wantDists(t, "To", to, max(e, e2), far...)
			for end := range g.N {
				d, e := Between(h, end, s)
				wantDist(t, "Between", d, e, far[end])
				arcs, d, e := Walk(h, end, s)
				wantDist(t, "Walk", d, e, far[end])
				if d == api.Inf {
					continue
				}
				slices.Reverse(arcs)
				wantWalk(t, g, s, end, arcs, d)
			}
		}
	})
}

// Promise 5.6: within more vertices nothing lies farther.
func TestWithinMore(t *testing.T) {
	draw := noise()
	manyGraphs(func(g api.Graph) {
		for range 3 {
			s, in := draw(g.N), make([]bool, g.N)
			before := make([]api.Dist, g.N)
			for v := range before {
				before[v] = api.Inf
			}
			for range g.N {
				in[draw(g.N)] = true
				far, e := Within(g, s, in)
				if e != api.OK || len(far) != g.N {
					t.Fatalf("Within %v from %d of %v: %v, %v", in, s, g, far, e)
				}
				for v := range far {
					if far[v] > before[v] {
						t.Errorf("Within %v from %d of %v: %d lies farther", in, s, g, v)
					}
				}
				before = far
			}
		}
	})
}

// R4: what is handed in stays as it was, spare room too, and answers are new memory.
func TestMemory(t *testing.T) {
	bad := api.Arc{From: -7, To: -7, Weight: 7}
	room := append(tangle().Arcs, bad, bad)
	g := api.Graph{N: 8, Arcs: room[:len(room)-2]}
	marks := append(all(8), false, true)
	walk := []int{7, 9, 10, -1, -1}
	arcsBefore, marksBefore, walkBefore := slices.Clone(room), slices.Clone(marks), slices.Clone(walk)
	var dists [][]api.Dist
	var walks [][]int
	took := func(far []api.Dist, e api.Errno) {
		t.Helper()
		if e != api.OK {
			t.Error(e)
		}
		dists = append(dists, far)
	}
	for range 2 {
		took(From(g, 0))
		took(To(g, 5))
		took(Within(g, 0, marks[:8]))
		arcs, _, e := Walk(g, 0, 5)
		if e != api.OK || len(arcs) == 0 {
			t.Error(arcs, e)
		}
		walks = append(walks, arcs)
		if d, e := Length(g, 0, 5, walk[:3]); d != math.MaxUint32+2 || e != api.OK {
			t.Error(d, e)
		}
		if d, e := Between(g, 0, 5); d != math.MaxUint32+2 || e != api.OK {
			t.Error(d, e)
		}
	}
	if !slices.Equal(room, arcsBefore) || !slices.Equal(marks, marksBefore) || !slices.Equal(walk, walkBefore) {
		t.Error("what was handed in is changed")
	}
	for i, far := range dists {
		for _, other := range dists[:i] {
			if overlap(far, other) {
				t.Error("two answers share memory")
			}
		}
		if overlap(far, room) || overlap(far, marks) || overlap(far, walk) {
			t.Error("an answer shares memory with what was handed in")
		}
	}
	if overlap(walks[0], walks[1]) || overlap(walks[0], walk) || overlap(walks[0], room) {
		t.Error("a walk shares memory")
	}
}

// R3: a list without a member may be nil or empty.
func TestEmptyLists(t *testing.T) {
	for _, none := range [][]api.Arc{nil, {}} {
		g := api.Graph{N: 2, Arcs: none}
		far, e := From(g, 1)
		wantDists(t, "From", far, e, api.Inf, 0)
		far, e = To(g, 1)
		wantDists(t, "To", far, e, api.Inf, 0)
		for _, arcs := range [][]int{nil, {}} {
			d, e := Length(g, 1, 1, arcs)
			wantDist(t, "Length", d, e, 0)
			wantNoLength(t, "no arcs", g, 0, 1, arcs, api.ErrShape)
		}
		for _, in := range [][]bool{nil, {}} {
			if far, e := Within(g, 1, in); e != api.ErrShape || len(far) != 0 {
				t.Errorf("Within no member: %v, %v", far, e)
			}
		}
	}
}

// R7: the same call tells the same, whatever was called ahead, and whatever room lies behind the lists.
func TestTellsTheSame(t *testing.T) {
	draw := noise()
	for range 30 {
		n := 2 + draw(20)
		g := drawn(draw, n, 4*n, 2)
		s, end := draw(n), draw(n)
		first, d, e := Walk(g, s, end)
		for range 3 {
			if _, _, e := Walk(drawn(draw, n, n, 3), end, s); e != api.OK {
				t.Fatal(e)
			}
			h := copyOf(g)
			h.Arcs = slices.Grow(h.Arcs, 1+draw(9))
			arcs, again, e2 := Walk(h, s, end)
			if !slices.Equal(arcs, first) || again != d || e2 != e {
				t.Errorf("Walk of %d, %d of %v: %v, then %v", s, end, g, first, arcs)
			}
		}
	}
}

// fuzzed makes of bytes a graph that is right, and two of its vertices.
func fuzzed(b []byte) (g api.Graph, s, end int) {
	at := func(i int) int {
		if i < len(b) {
			return int(b[i])
		}
		return 0
	}
	g.N = 1 + at(0)%40
	for i := 3; i+2 < len(b) && len(g.Arcs) < api.MaxArcs; i += 3 {
		weight := uint32(b[i+2])
		if weight > 250 {
			weight = math.MaxUint32 - weight
		}
		g.Arcs = append(g.Arcs, api.Arc{From: at(i) % g.N, To: at(i+1) % g.N, Weight: weight})
	}
	return g, at(1) % g.N, at(2) % g.N
}

// Promises 5.1 to 5.4, P1: graphs made of any bytes.
func FuzzNear(f *testing.F) {
	f.Add([]byte{2, 0, 2, 0, 1, 5, 1, 2, 7, 0, 2, 20})
	f.Add([]byte{4, 3, 1, 3, 4, 0, 4, 3, 0, 4, 1, 255, 1, 1, 1})
	f.Fuzz(func(t *testing.T, b []byte) {
		g, s, end := fuzzed(b)
		wantAll(t, g, s)
		in := make([]bool, g.N)
		for v := range in {
			in[v] = v >= len(b) || b[v]%3 > 0
		}
		far, e := Within(g, s, in)
		wantDists(t, "Within", far, e, plainWithin(g, s, in)...)
		ids := make([]int, len(b))
		for i := range b {
			ids[i] = int(b[i])
		}
		if d, e := Length(g, s, end, ids); e == api.OK && d < plainFrom(g, s)[end] {
			t.Errorf("Length of %d, %d of %v: %d is shorter than the distance", s, end, g, d)
		}
	})
}
