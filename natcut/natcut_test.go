package natcut

import (
	"math"
	"slices"
	"testing"

	"flyover/api"
)

// Promises 8.1 to 8.3: the chapter's examples.
func TestExamples(t *testing.T) {
	g := triangles()
	l, e := Pairs(g)
	want(t, "Pairs", l, e, pairs(0, 1, 0, 2, 1, 2, 2, 3, 3, 4, 3, 5, 4, 5)...)
	cut, e := Cut(g, 0, 4)
	want(t, "Cut", cut, e, pairs(2, 3)...)
	labels, e := Fragments(g, cut)
	want(t, "Fragments", labels, e, 0, 0, 0, 1, 1, 1)
	wantCount(t, g, labels, 1, api.OK)
	labels, e = Fragments(g, nil)
	want(t, "Fragments of no marks", labels, e, parts(t, g)...)
	l, e = Marks(g, []int{0, 0}, 4)
	want(t, "Marks of 0 and 0", l, e, pairs(2, 3)...)
	labels, e = Fragments(g, pairs(3, 2))
	wantError(t, "a mark 3, 2", labels, e, api.ErrShape)
}

// Promises 8.1 to 8.3: what is told by hand of a graph with all that a graph may have.
func TestTangle(t *testing.T) {
	g := tangle()
	l, e := Pairs(g)
	want(t, "Pairs", l, e, pairs(0, 3, 0, 9, 1, 2, 1, 5, 1, 7, 2, 9, 2, 10, 3, 7, 3, 9, 4, 8, 5, 10)...)
	wantCount(t, g, []int{0, 1, 1, 0, 2, 1, 3, 0, 2, 0, 1}, 2, api.OK)
	wantCount(t, g, slices.Repeat([]int{0}, 11), 0, api.OK)
	wantCount(t, g, count(11), 11, api.OK)
	// The region is 0, 3, 9, 7, 2, 1: the core is 0, 3; what leads on from it are the pairs of 9 and 7, and two are left of the others.
	l, e = Cut(g, 0, 6)
	want(t, "Cut around 0 of 6", l, e, pairs(2, 9, 3, 7)...)
	l, e = Cut(g, 8, 2)
	want(t, "Cut around 8, with nothing that leads out", l, e)
	l, e = Cut(g, 8, 1)
	want(t, "Cut around 8 of 1", l, e, pairs(4, 8)...)
	l, e = Cut(g, 6, 5)
	want(t, "Cut around 6, without a neighbour", l, e)
	l, e = Marks(g, []int{8, 0, 6, 0, 4}, 1)
	want(t, "Marks of 1", l, e, pairs(0, 3, 0, 9, 4, 8)...)
	labels, e := Fragments(g, pairs(2, 9, 0, 4, 3, 7, 4, 8))
	want(t, "Fragments", labels, e, 0, 1, 1, 0, 2, 1, 3, 1, 4, 0, 1)
}

// Promise 8.1: the pairs of many graphs.
func TestPairs(t *testing.T) {
	wantPairs := func(g api.Graph) {
		l, e := Pairs(g)
		want(t, "Pairs", l, e, plainPairs(g)...)
		if t.Failed() {
			t.Fatalf("of %v", g)
		}
	}
	manyGraphs(wantPairs)
	for _, g := range greatGraphs() {
		wantPairs(g)
	}
}

// Promise 8.1: labels that are right and such that are not, of all lists of few small numbers.
func TestCount(t *testing.T) {
	for n := 1; n < 5; n++ {
		for _, g := range []api.Graph{way(n), crowd(n), {N: n}, arcs(n, 0, n-1, n-1, 0, 0, 0)} {
			all := plainPairs(g)
			lists(n+1, -1, n+1, func(labels []int) {
				if len(labels) != n || !isTidy(labels) {
					wantCount(t, g, labels, 0, api.ErrLabel)
					return
				}
				between := slices.DeleteFunc(slices.Clone(all), func(p api.Pair) bool { return labels[p.A] == labels[p.B] })
				wantCount(t, g, labels, len(between), api.OK)
			})
		}
	}
}

// lists goes through all lists of at most most numbers from low to high.
func lists(most, low, high int, do func(l []int)) {
	var longer func(l []int)
	longer = func(l []int) {
		do(l)
		if len(l) == most {
			return
		}
		for n := low; n <= high; n++ {
			longer(append(l[:len(l):len(l)], n))
		}
	}
	longer(nil)
}

// Promise 8.1: labels of the greatest graphs; any other number of labels than N is not right, however great it is.
func TestCountGreatest(t *testing.T) {
	for _, g := range greatGraphs() {
		all := plainPairs(g)
		wantCount(t, g, count(g.N), len(all), api.OK)
		wantCount(t, g, make([]int, g.N), 0, api.OK)
		for _, many := range []int{0, g.N - 1, g.N + 1, api.MaxItems, api.MaxItems + 1} {
			wantCount(t, g, make([]int, many), 0, api.ErrLabel)
		}
		for _, label := range []int{math.MinInt, -1, g.N, g.N + 1, math.MaxInt} {
			for _, at := range []int{0, g.N / 2, g.N - 1} {
				labels := count(g.N)
				labels[at] = label
				wantCount(t, g, labels, 0, api.ErrLabel)
			}
		}
	}
}

// Promise 8.2: cuts around all vertices of many graphs, of all sizes, also greater than there are vertices.
func TestCut(t *testing.T) {
	manyGraphs(func(g api.Graph) {
		all := plainPairs(g)
		for centre := range g.N {
			for _, most := range append(count(g.N + 2)[1:], api.MaxVertices) {
				l, e := Cut(g, centre, most)
				want(t, "Cut", l, e, plainCut(t, g, all, centre, most)...)
				want(t, "step by step", stepwiseCut(t, g, all, centre, most), api.OK, l...)
				if t.Failed() {
					t.Fatalf("around %d of %d of %v", centre, most, g)
				}
			}
		}
	})
}

// Promise 8.2: cuts of the greatest graphs.
func TestGreatestCuts(t *testing.T) {
	for at, g := range greatGraphs() {
		all := plainPairs(g)
		for _, centre := range []int{0, g.N / 3, g.N - 1} {
			for _, most := range []int{1, 2, 7, 16, 64, 300, api.MaxVertices - 1, api.MaxVertices} {
				l, e := Cut(g, centre, most)
				want(t, "Cut", l, e, stepwiseCut(t, g, all, centre, most)...)
				if t.Failed() {
					t.Fatalf("around %d of %d of the graph %d", centre, most, at)
				}
			}
		}
	}
}

// Promise 8.2: where several cuts are the least, the one with the fewest nodes lies closest around the core.
func TestCutNearest(t *testing.T) {
	for most, at := range []int{0, 1, 1, 1, 1, 2, 2, 2, 2, 3, 3} {
		if most == 0 {
			continue
		}
		l, e := Cut(way(11), 0, most)
		want(t, "Cut of a way", l, e, pairs(at-1, at)...)
	}
	// The core 5, 4 of the region 5, 4, 6, 3, 7: the cut lies at both of its ends.
	l, e := Cut(way(11), 5, 5)
	want(t, "Cut in the middle of a way", l, e, pairs(3, 4, 5, 6)...)
}

// Promise 8.2: a pair counts once, however many arcs there are; weights and directions change nothing.
func TestCutCountsPairs(t *testing.T) {
	// From 0 two ways lead on, by 1 and by 2, and three out of the region, from 3: the two ways are cut, however many arcs they are.
	g := arcs(7, 0, 1, 0, 2, 1, 3, 2, 3, 3, 4, 3, 5, 3, 6)
	wantIt := func(g api.Graph) {
		t.Helper()
		l, e := Cut(g, 0, 4)
		want(t, "Cut", l, e, pairs(0, 1, 0, 2)...)
	}
	wantIt(g)
	for id := range g.Arcs {
		h := api.Graph{N: g.N, Arcs: slices.Clone(g.Arcs)}
		for k := range 20 {
			arc := h.Arcs[id]
			h.Arcs = append(h.Arcs, api.Arc{From: arc.To, To: arc.From, Weight: uint32(k)}, api.Arc{From: k % 7, To: k % 7})
			h.Arcs[id].Weight = math.MaxUint32 - uint32(k)
			wantIt(h)
		}
	}
}

// Promise 8.2: without a vertex outside there is no cut, nor where none of them is connected.
func TestCutOfNone(t *testing.T) {
	for _, g := range []api.Graph{{N: 1}, arcs(1, 0, 0), way(5), triangles(), crowd(6), towns(2, 3)} {
		for centre := range g.N {
			for _, most := range []int{g.N, g.N + 1, api.MaxVertices} {
				l, e := Cut(g, centre, most)
				want(t, "Cut of all", l, e)
			}
		}
	}
	g := arcs(7, 0, 1, 1, 2, 3, 4, 4, 5, 5, 3)
	for centre, most := range []int{3, 3, 3, 3, 3, 3, 1} {
		l, e := Cut(g, centre, most)
		want(t, "Cut of a part", l, e)
	}
}

// Promise 8.2, R1, R5: centres that are none, ahead of sizes that may not be.
func TestCutWrong(t *testing.T) {
	for _, g := range []api.Graph{triangles(), {N: 1}, {N: api.MaxVertices}, tangle()} {
		for _, centre := range noVertices(g.N) {
			for _, most := range append(wrongSizes(), 1, api.MaxVertices) {
				l, e := Cut(g, centre, most)
				wantError(t, "Cut around none", l, e, api.ErrNone)
			}
		}
		for _, centre := range []int{0, g.N - 1} {
			for _, most := range wrongSizes() {
				l, e := Cut(g, centre, most)
				wantError(t, "Cut of a wrong size", l, e, api.ErrRange)
			}
		}
	}
}

// Promise 8.2: the pairs of several cuts, each once, in order, whatever the order of the centres.
func TestMarks(t *testing.T) {
	draw := noise()
	manyGraphs(func(g api.Graph) {
		all := plainPairs(g)
		most := 1 + draw(g.N)
		cuts := make([][]api.Pair, g.N)
		for v := range cuts {
			cuts[v] = plainCut(t, g, all, v, most)
		}
		for many := range 6 {
			var centres []int
			var some [][]api.Pair
			for range many {
				v := draw(g.N)
				centres, some = append(centres, v), append(some, cuts[v])
			}
			l, e := Marks(g, centres, most)
			want(t, "Marks", l, e, plainMarks(all, some...)...)
			slices.Reverse(centres)
			l, e = Marks(g, append(centres, centres...), most)
			want(t, "Marks turned about and twice", l, e, plainMarks(all, some...)...)
		}
		l, e := Marks(g, count(g.N), most)
		want(t, "Marks of all", l, e, plainMarks(all, cuts...)...)
		if t.Failed() {
			t.Fatalf("of %d of %v", most, g)
		}
	})
}

// Promise 8.2, P1: as many centres as there may be, at the greatest graphs.
func TestGreatestMarks(t *testing.T) {
	const unlike = 50
	for at, g := range greatGraphs() {
		all, centres := plainPairs(g), make([]int, api.MaxItems)
		for i := range centres {
			centres[i] = i % unlike * g.N / unlike
		}
		for _, most := range []int{1, 40, 500, api.MaxVertices} {
			marked := map[api.Pair]bool{}
			for _, centre := range centres[:unlike] {
				cut, _ := Cut(g, centre, most)
				for _, p := range cut {
					marked[p] = true
				}
			}
			l, e := Marks(g, centres, most)
			want(t, "Marks", l, e, slices.DeleteFunc(slices.Clone(all), func(p api.Pair) bool { return !marked[p] })...)
			if t.Failed() {
				t.Fatalf("of %d of the graph %d", most, at)
			}
		}
		// A vertex is the core of a region of 1: all that leads out of it is cut.
		l, e := Marks(g, count(g.N), 1)
		want(t, "Marks of all", l, e, all...)
	}
}

// Promise 8.2: too many centres, ahead of sizes that may not be, ahead of centres that are none.
func TestMarksWrong(t *testing.T) {
	g := triangles()
	for _, v := range append(noVertices(g.N), 0) {
		many := slices.Repeat([]int{v}, api.MaxItems+1)
		for _, most := range append(wrongSizes(), 4) {
			l, e := Marks(g, many, most)
			wantError(t, "too many centres", l, e, api.ErrLong)
		}
		for _, most := range wrongSizes() {
			for _, centres := range [][]int{nil, {}, {v}, {0, v}, many[:api.MaxItems]} {
				l, e := Marks(g, centres, most)
				wantError(t, "a wrong size", l, e, api.ErrRange)
			}
		}
	}
	for _, v := range noVertices(g.N) {
		for at := range 3 {
			centres := []int{0, 5, 2}
			centres[at] = v
			l, e := Marks(g, centres, 4)
			wantError(t, "a centre that is none", l, e, api.ErrNone)
		}
		centres := append(make([]int, api.MaxItems-1), v)
		l, e := Marks(g, centres, api.MaxVertices)
		wantError(t, "the last centre is none", l, e, api.ErrNone)
	}
	l, e := Marks(g, make([]int, api.MaxItems), 4)
	want(t, "as many centres as may be", l, e, pairs(2, 3)...)
}

// Promise 8.3: fragments of all marks of few pairs, and of drawn ones, among them such that are no neighbours.
func TestFragments(t *testing.T) {
	draw := noise()
	manyGraphs(func(g api.Graph) {
		all, every := plainPairs(g), plainPairs(crowd(g.N))
		sets := min(1<<len(every), 32)
		for set := range sets {
			var marks []api.Pair
			for at, p := range every {
				if (len(every) <= 5 && set>>at&1 == 1) || (len(every) > 5 && draw(sets) < set) {
					marks = append(marks, p)
				}
			}
			l, e := Fragments(g, marks)
			want(t, "Fragments", l, e, plainFragments(g.N, all, marks)...)
			slices.Reverse(marks)
			l, e = Fragments(g, append(marks, marks...))
			want(t, "Fragments of marks turned about and twice", l, e, plainFragments(g.N, all, marks)...)
			if t.Failed() {
				t.Fatalf("of %v of %v", marks, g)
			}
		}
	})
}

// Promise 8.3: fragments of the greatest graphs; with all pairs marked each vertex is one, with none they are the parts, and a mark of no neighbours changes nothing.
func TestGreatestFragments(t *testing.T) {
	for _, g := range greatGraphs() {
		all := plainPairs(g)
		l, e := Fragments(g, all)
		want(t, "Fragments of all marks", l, e, count(g.N)...)
		l, e = Fragments(g, nil)
		want(t, "Fragments of no marks", l, e, parts(t, g)...)
		marks, _ := Marks(g, []int{0, g.N / 2, g.N - 1}, 40)
		l, e = Fragments(g, marks)
		want(t, "Fragments of some cuts", l, e, plainFragments(g.N, all, marks)...)
	}
	g := way(200)
	var foreign []api.Pair
	for a := range g.N {
		for b := a + 2; b < g.N && len(foreign) < api.MaxItems; b++ {
			foreign = append(foreign, api.Pair{A: a, B: b})
		}
	}
	l, e := Fragments(g, foreign)
	want(t, "Fragments of marks that are no pairs", l, e, make([]int, g.N)...)
	foreign[len(foreign)-1] = api.Pair{A: 0, B: 1}
	l, e = Fragments(g, foreign)
	want(t, "Fragments of one pair among them", l, e, append([]int{0}, slices.Repeat([]int{1}, g.N-1)...)...)
}

// Promise 8.3: of the first mark that is wrong, what is wrong with it.
func TestFragmentsWrong(t *testing.T) {
	g := triangles()
	var wrong []api.Pair
	var codes []api.Errno
	for _, v := range noVertices(g.N) {
		for _, w := range []int{0, 3, 5, v, -7, 9} {
			wrong = append(wrong, api.Pair{A: v, B: w}, api.Pair{A: w, B: v})
			codes = append(codes, api.ErrNone, api.ErrNone)
		}
	}
	for a := range g.N {
		for b := range a + 1 {
			wrong, codes = append(wrong, api.Pair{A: a, B: b}), append(codes, api.ErrShape)
		}
	}
	for i, p := range wrong {
		for at := range 3 {
			marks := pairs(0, 1, 2, 3, 1, 4)
			marks[at] = p
			l, e := Fragments(g, marks)
			wantError(t, "a mark that is wrong", l, e, codes[i])
		}
		for j, q := range wrong {
			l, e := Fragments(g, []api.Pair{{A: 0, B: 5}, p, q})
			wantError(t, "two marks that are wrong", l, e, codes[i])
			l, e = Fragments(g, []api.Pair{q, p, {A: 0, B: 5}})
			wantError(t, "two marks that are wrong, turned about", l, e, codes[j])
		}
		many := append(slices.Repeat(pairs(2, 3), api.MaxItems-1), p, p)
		l, e := Fragments(g, many)
		wantError(t, "too many marks", l, e, api.ErrLong)
		l, e = Fragments(g, many[:api.MaxItems])
		wantError(t, "the last mark is wrong", l, e, codes[i])
	}
	many := slices.Repeat(pairs(2, 3), api.MaxItems+1)
	l, e := Fragments(g, many)
	wantError(t, "too many marks that are right", l, e, api.ErrLong)
	l, e = Fragments(g, many[:api.MaxItems])
	want(t, "as many marks as may be", l, e, 0, 0, 0, 1, 1, 1)
}

// Promise 8.4: a cut parts the core from the outside, and no fewer pairs do; only marked pairs are between fragments.
func TestFollows(t *testing.T) {
	manyGraphs(func(g api.Graph) {
		all := plainPairs(g)
		for centre := range g.N {
			for most := 1; most <= g.N; most++ {
				l, e := Cut(g, centre, most)
				if !isParted(t, g, kept(all, l), centre, most) {
					t.Fatalf("the cut around %d of %d of %v does not part: %v, %v", centre, most, g, l, e)
				}
				if len(all) > 10 {
					continue
				}
				// All fewer pairs leave a way.
				for set := range 1 << len(all) {
					var some []api.Pair
					for at, p := range all {
						if set>>at&1 == 1 {
							some = append(some, p)
						}
					}
					if len(some) == len(l)-1 && isParted(t, g, kept(all, some), centre, most) {
						t.Fatalf("%v parts around %d of %d of %v, and has fewer than %v", some, centre, most, g, l)
					}
				}
			}
		}
	})
}

// isParted says whether no vertex of the core is connected with one outside of the region by these pairs.
func isParted(t *testing.T, g api.Graph, by []api.Pair, centre, most int) bool {
	t.Helper()
	region, core, outside := surroundings(t, g, centre, most)
	reached := spread(g.N, by, region[:core]...)
	return !slices.ContainsFunc(outside, func(v int) bool { return reached[v] })
}

// Promise 8.4: only marked pairs are between fragments, and what is counted are just these.
func TestFragmentsFollow(t *testing.T) {
	draw := noise()
	follow := func(g api.Graph) {
		marks, e := Marks(g, []int{draw(g.N), draw(g.N), draw(g.N)}, 1+draw(g.N))
		labels, e2 := Fragments(g, marks)
		if e != api.OK || e2 != api.OK || len(labels) != g.N || !isTidy(labels) {
			t.Fatal(e, labels, e2)
		}
		between := 0
		for _, p := range plainPairs(g) {
			if labels[p.A] == labels[p.B] {
				continue
			}
			between++
			if !slices.Contains(marks, p) {
				t.Fatalf("of %v: %v is between the fragments %v, and no mark of %v", g, p, labels, marks)
			}
		}
		wantCount(t, g, labels, between, api.OK)
	}
	manyGraphs(follow)
	for _, g := range greatGraphs() {
		follow(g)
	}
}

// Promises 8.1 to 8.3, R2: what layer 3's Check refuses of a graph comes ahead of all else.
func TestGraphWrong(t *testing.T) {
	many := make([]api.Arc, api.MaxArcs+1)
	many[0].To = 9
	for name, x := range map[string]struct {
		g    api.Graph
		want api.Errno
	}{
		"no vertex":           {api.Graph{}, api.ErrRange},
		"N below 0":           {api.Graph{N: math.MinInt}, api.ErrRange},
		"too many vertices":   {api.Graph{N: api.MaxVertices + 1}, api.ErrRange},
		"the greatest N":      {api.Graph{N: math.MaxInt, Arcs: many}, api.ErrRange},
		"too many arcs":       {api.Graph{N: 2, Arcs: many}, api.ErrLong},
		"an end too great":    {api.Graph{N: 2, Arcs: []api.Arc{{To: 1}, {To: 2}}}, api.ErrArc},
		"a beginning below 0": {api.Graph{N: 2, Arcs: []api.Arc{{From: -1}}}, api.ErrArc},
	} {
		l, e := Pairs(x.g)
		wantError(t, name+": Pairs", l, e, x.want)
		for _, labels := range [][]int{nil, {0}, {0, 0}, {1, -1}, make([]int, api.MaxItems+1)} {
			wantCount(t, x.g, labels, 0, x.want)
			for _, most := range append(wrongSizes(), 1, 4) {
				l, e := Marks(x.g, labels, most)
				wantError(t, name+": Marks", l, e, x.want)
				for _, centre := range []int{0, 1, 2, -1, math.MinInt, math.MaxInt} {
					l, e := Cut(x.g, centre, most)
					wantError(t, name+": Cut", l, e, x.want)
				}
			}
		}
		for _, marks := range [][]api.Pair{nil, pairs(0, 1), pairs(1, 0), pairs(-1, 9), make([]api.Pair, api.MaxItems+1)} {
			l, e := Fragments(x.g, marks)
			wantError(t, name+": Fragments", l, e, x.want)
		}
	}
}

// R4: what is handed in stays as it was, spare room too, what lies there is not read, and answers are new memory.
func TestMemory(t *testing.T) {
	bad := api.Arc{From: -7, To: -7, Weight: 7}
	room := append(triangles().Arcs, bad, bad)
	g := api.Graph{N: 6, Arcs: room[:len(room)-2]}
	labels := []int{0, 0, 0, 1, 1, 2, -9, 7}
	centres := []int{4, 0, 0, -1, 99}
	marks := pairs(2, 3, 0, 4, 0, 4, 5, 1, -1, 9)
	before := []any{slices.Clone(room), slices.Clone(labels), slices.Clone(centres), slices.Clone(marks)}
	var told [][]api.Pair
	var fragments [][]int
	for range 2 {
		l, e := Pairs(g)
		want(t, "Pairs", l, e, plainPairs(g)...)
		cut, e := Cut(g, 0, 1)
		want(t, "Cut", cut, e, pairs(0, 1, 0, 2)...)
		marked, e := Marks(g, centres[:3], 1)
		want(t, "Marks", marked, e, pairs(0, 1, 0, 2, 3, 4, 4, 5)...)
		wantCount(t, g, labels[:6], 3, api.OK)
		parted, e := Fragments(g, marks[:3])
		want(t, "Fragments", parted, e, 0, 0, 0, 1, 1, 1)
		told, fragments = append(told, l, cut, marked), append(fragments, parted)
	}
	for i, l := range told {
		for _, other := range told[:i] {
			if overlap(l, other) {
				t.Error("two answers share memory")
			}
		}
		if overlap(l, room) || overlap(l, marks) || overlap(l, centres) || overlap(l, fragments[0]) {
			t.Error("an answer shares memory with another one, or with what was handed in")
		}
		clear(l[:cap(l)])
	}
	if overlap(fragments[0], fragments[1]) || overlap(fragments[0], room) || overlap(fragments[0], marks) {
		t.Error("labels share memory")
	}
	clear(fragments[0][:cap(fragments[0])])
	if !slices.Equal(room, before[0].([]api.Arc)) || !slices.Equal(labels, before[1].([]int)) || !slices.Equal(centres, before[2].([]int)) || !slices.Equal(marks, before[3].([]api.Pair)) {
		t.Error("what was handed in is changed")
	}
}

// R3: a list without a member may be nil or empty.
func TestEmptyLists(t *testing.T) {
	for _, none := range [][]api.Arc{nil, {}} {
		g := api.Graph{N: 2, Arcs: none}
		l, e := Pairs(g)
		want(t, "Pairs", l, e)
		l, e = Cut(g, 1, 1)
		want(t, "Cut", l, e)
		wantCount(t, g, []int{0, 1}, 0, api.OK)
		for _, centres := range [][]int{nil, {}, {0, 1}} {
			l, e := Marks(g, centres, 1)
			want(t, "Marks", l, e)
		}
		for _, marks := range [][]api.Pair{nil, {}, pairs(0, 1)} {
			l, e := Fragments(g, marks)
			want(t, "Fragments", l, e, 0, 1)
		}
	}
	for _, centres := range [][]int{nil, {}} {
		l, e := Marks(triangles(), centres, 4)
		want(t, "Marks of no centre", l, e)
		wantCount(t, triangles(), centres, 0, api.ErrLabel)
	}
}

// R7: the same call tells the same, whatever was called ahead, and whatever room lies behind the lists.
func TestTellsTheSame(t *testing.T) {
	draw := noise()
	for range 30 {
		n := 2 + draw(60)
		g := drawn(draw, n, 2*n)
		centres, most := []int{draw(n), draw(n), draw(n)}, 1+draw(n)
		all, _ := Pairs(g)
		cut, _ := Cut(g, centres[0], most)
		marks, _ := Marks(g, centres, most)
		labels, _ := Fragments(g, marks)
		for range 3 {
			Marks(drawn(draw, n, n), count(n), most)
			h := api.Graph{N: n, Arcs: slices.Grow(slices.Clone(g.Arcs), 1+draw(9))}
			l, e := Pairs(h)
			want(t, "Pairs", l, e, all...)
			l, e = Cut(h, centres[0], most)
			want(t, "Cut", l, e, cut...)
			l, e = Marks(h, slices.Grow(slices.Clone(centres), 1+draw(9)), most)
			want(t, "Marks", l, e, marks...)
			fragments, e := Fragments(h, slices.Grow(slices.Clone(marks), 1+draw(9)))
			want(t, "Fragments", fragments, e, labels...)
		}
	}
}

// Promises 8.1 to 8.4, P1: graphs, centres, sizes, labels and marks that are made up.
func FuzzNatcut(f *testing.F) {
	f.Add(6, 4, []byte{0, 1, 1, 2, 2, 0, 3, 4, 4, 5, 5, 3, 2, 3}, []byte{0, 0})
	f.Add(3, 1, []byte{0, 1, 1, 2}, []byte{0, 1, 1})
	f.Add(0, -1, []byte{255, 3}, []byte{255})
	f.Add(40, 9, []byte{0, 1, 7, 7}, []byte{3, 2})
	f.Fuzz(func(t *testing.T, n, most int, ends, numbers []byte) {
		n %= 48
		g := api.Graph{N: n}
		for i := 0; i+1 < len(ends); i += 2 {
			g.Arcs = append(g.Arcs, api.Arc{From: int(ends[i]) % max(n, 1), To: int(ends[i+1]) % max(n, 1)})
		}
		var centres []int
		var marks []api.Pair
		centresE, marksE := api.OK, api.OK
		for i, b := range numbers {
			v := int(int8(b))
			if v < 0 || v >= n {
				centresE = api.ErrNone
			}
			centres = append(centres, v)
			if i%2 == 0 {
				continue
			}
			p := api.Pair{A: centres[i-1], B: v}
			if marksE == api.OK && (min(p.A, p.B) < 0 || max(p.A, p.B) >= n) {
				marksE = api.ErrNone
			} else if marksE == api.OK && p.A >= p.B {
				marksE = api.ErrShape
			}
			marks = append(marks, p)
		}
		if len(g.Arcs) > api.MaxArcs || len(centres) > api.MaxItems {
			return
		}
		if most < 1 || most > api.MaxVertices {
			centresE = api.ErrRange
		}
		if n < 1 {
			centresE, marksE = api.ErrRange, api.ErrRange
		}
		fuzzed(t, g, centres, marks, most, centresE, marksE)
	})
}

// fuzzed holds all calls against the plain readings, or against the errors that they must answer.
func fuzzed(t *testing.T, g api.Graph, centres []int, marks []api.Pair, most int, centresE, marksE api.Errno) {
	marked, e := Marks(g, centres, most)
	labels, e2 := Fragments(g, marks)
	if g.N < 1 {
		wantError(t, "Marks", marked, e, centresE)
		wantError(t, "Fragments", labels, e2, marksE)
		return
	}
	all := plainPairs(g)
	l, e3 := Pairs(g)
	want(t, "Pairs", l, e3, all...)
	if marksE != api.OK {
		wantError(t, "Fragments", labels, e2, marksE)
	} else {
		want(t, "Fragments", labels, e2, plainFragments(g.N, all, marks)...)
	}
	if len(centres) == g.N && isTidy(centres) {
		between := slices.DeleteFunc(l, func(p api.Pair) bool { return centres[p.A] == centres[p.B] })
		wantCount(t, g, centres, len(between), api.OK)
	} else {
		wantCount(t, g, centres, 0, api.ErrLabel)
	}
	if centresE != api.OK {
		wantError(t, "Marks", marked, e, centresE)
		return
	}
	var cuts [][]api.Pair
	for _, centre := range centres {
		cut, e := Cut(g, centre, most)
		want(t, "Cut", cut, e, stepwiseCut(t, g, all, centre, most)...)
		cuts = append(cuts, cut)
	}
	want(t, "Marks", marked, e, plainMarks(all, cuts...)...)
}
