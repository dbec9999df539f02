package grow

import (
	"math"
	"slices"
	"testing"

	"flyover/api"
)

// Promises 7.1 to 7.3: the chapter's examples.
func TestExamples(t *testing.T) {
	g := way(5)
	l, e := Region(g, 2, 4)
	wantList(t, "Region of 4", l, e, 2, 1, 3, 0)
	l, e = Core(g, 2, 4)
	wantList(t, "Core of 4", l, e, 2)
	l, e = Region(g, 2, 5)
	wantList(t, "Region of 5", l, e, 2, 1, 3, 0, 4)
	l, e = Core(g, 2, 5)
	wantList(t, "Core of 5", l, e, 2, 1)
	l, e = Ring(g, []int{1, 2})
	wantList(t, "Ring", l, e, 0, 3)
	g = api.Graph{N: 2}
	l, e = Region(g, 1, 9)
	wantList(t, "Region without arcs", l, e, 1)
	l, e = Order(g)
	wantList(t, "Order without arcs", l, e, 0, 1)
	l, e = Ring(g, []int{0, 0})
	wantNone(t, "Ring of 0, 0", l, e, api.ErrShape)
}

// Promises 7.1 to 7.3: what is told by hand of a graph with all that a graph may have.
func TestTangle(t *testing.T) {
	g := tangle()
	l, e := Region(g, 3, 9)
	wantList(t, "Region around 3", l, e, 3, 0, 7, 9, 1, 2)
	l, e = Core(g, 3, 9)
	wantList(t, "Core around 3", l, e, 3, 0)
	l, e = Region(g, 2, 5)
	wantList(t, "Region around 2", l, e, 2, 1, 9, 7, 0)
	l, e = Region(g, 6, 3)
	wantList(t, "Region around 6", l, e, 6)
	l, e = Region(g, 8, 3)
	wantList(t, "Region around 8", l, e, 8, 4)
	l, e = Ring(g, []int{9, 8, 3, 6})
	wantList(t, "Ring", l, e, 0, 2, 4, 7)
	l, e = Order(g)
	wantList(t, "Order", l, e, 0, 3, 9, 7, 2, 1, 4, 8, 5, 6)
}

// wantRegions holds the regions of all sizes around a centre, and their cores, against the plain reading.
func wantRegions(t *testing.T, g api.Graph, beside [][]int, centre int, sizes []int) {
	t.Helper()
	whole := plainAround(beside, nil, centre)
	for _, most := range sizes {
		want := whole[:min(most, len(whole))]
		l, e := Region(g, centre, most)
		wantList(t, "Region", l, e, want...)
		core := 0
		for 4*core < len(want) {
			core++
		}
		l, e = Core(g, centre, most)
		wantList(t, "Core", l, e, want[:core]...)
		if t.Failed() {
			t.Fatalf("around %d of %d of %v", centre, most, g)
		}
	}
}

// Promise 7.1: regions and cores around all vertices of many graphs, also greater than there are vertices.
func TestRegions(t *testing.T) {
	manyGraphs(func(g api.Graph) {
		beside := allNeighbours(g)
		sizes := append(count(g.N + 4)[1:], api.MaxVertices)
		for centre := range g.N {
			wantRegions(t, g, beside, centre, sizes)
		}
	})
}

// Promise 7.1: a core is a quarter, rounded up, of the vertices that the region has, not of those it was asked for.
func TestCoreSizes(t *testing.T) {
	for most, want := range []int{0, 1, 1, 1, 1, 2, 2, 2, 2, 3, 3, 3, 3, 3} {
		if most == 0 {
			continue
		}
		l, e := Core(way(12), 0, most)
		wantList(t, "Core", l, e, count(want)...)
	}
	for n, want := range map[int]int{1: 1, 4: 1, 5: 2, 8: 2, 9: 3, 1023: 256, 1024: 256, 1021: 256, 1020: 255} {
		l, e := Core(way(n), 0, api.MaxVertices)
		wantList(t, "Core", l, e, count(want)...)
	}
}

// Promise 7.1: the greatest graphs.
func TestGreatestRegions(t *testing.T) {
	for _, g := range greatGraphs() {
		beside := allNeighbours(g)
		for _, centre := range []int{0, g.N / 3, g.N - 1} {
			wantRegions(t, g, beside, centre, []int{1, 2, 7, 500, g.N, api.MaxVertices})
		}
	}
}

// Promise 7.1, R1, R5: centres that are none, ahead of sizes that may not be; sizes at their ends.
func TestRegionWrong(t *testing.T) {
	for _, g := range []api.Graph{way(5), {N: 1}, {N: api.MaxVertices}, tangle()} {
		wrongSizes := []int{math.MinInt, -1, 0, api.MaxVertices + 1, api.MaxItems, math.MaxInt}
		for _, centre := range noVertices(g.N) {
			for _, most := range append(wrongSizes, 1, api.MaxVertices) {
				l, e := Region(g, centre, most)
				wantNone(t, "Region around none", l, e, api.ErrNone)
				l, e = Core(g, centre, most)
				wantNone(t, "Core around none", l, e, api.ErrNone)
			}
		}
		for _, centre := range []int{0, g.N - 1} {
			for _, most := range wrongSizes {
				l, e := Region(g, centre, most)
				wantNone(t, "Region of a wrong size", l, e, api.ErrRange)
				l, e = Core(g, centre, most)
				wantNone(t, "Core of a wrong size", l, e, api.ErrRange)
			}
			l, e := Region(g, centre, 1)
			wantList(t, "Region of 1", l, e, centre)
			l, e = Core(g, centre, 1)
			wantList(t, "Core of 1", l, e, centre)
			if l, e := Region(g, centre, api.MaxVertices); e != api.OK || len(l) == 0 {
				t.Errorf("Region of the greatest size: %v, %v", l, e)
			}
		}
	}
}

// Promise 7.2: rings of all or some members of many graphs.
func TestRing(t *testing.T) {
	draw := noise()
	manyGraphs(func(g api.Graph) {
		beside := allNeighbours(g)
		masks(draw, g.N, func(members []int) {
			l, e := Ring(g, members)
			wantList(t, "Ring", l, e, plainRing(beside, members)...)
			if t.Failed() {
				t.Fatalf("of %v of %v", members, g)
			}
		})
	})
	for _, g := range greatGraphs() {
		beside := allNeighbours(g)
		for _, members := range [][]int{nil, {0}, {g.N - 1}, count(g.N), count(g.N / 2), count(g.N - 1)} {
			l, e := Ring(g, members)
			wantList(t, "Ring of the greatest", l, e, plainRing(beside, members)...)
		}
	}
}

// Promise 7.2: around no member and around all there is nothing; a vertex is not around itself.
func TestRingOfNone(t *testing.T) {
	for _, g := range []api.Graph{way(5), tangle(), {N: 1, Arcs: []api.Arc{{}}}, town(5)} {
		for _, members := range [][]int{nil, {}, count(g.N)} {
			l, e := Ring(g, members)
			wantList(t, "Ring", l, e)
		}
	}
	l, e := Ring(tangle(), []int{6})
	wantList(t, "Ring of 6", l, e)
}

// Promise 7.2, R1: members that are none come ahead of those that stand twice, at whatever places.
func TestRingWrong(t *testing.T) {
	g := way(5)
	for _, v := range noVertices(g.N) {
		for at := range 4 {
			for _, members := range [][]int{{0, 1, 2, 3}, {3, 3, 3, 3}, {1, 1, 2, 2}} {
				members[at] = v
				l, e := Ring(g, members)
				wantNone(t, "a member that is none", l, e, api.ErrNone)
			}
		}
		l, e := Ring(g, []int{v})
		wantNone(t, "one member that is none", l, e, api.ErrNone)
		l, e = Ring(g, []int{v, v})
		wantNone(t, "two that are none", l, e, api.ErrNone)
	}
	for _, members := range [][]int{{0, 0}, {4, 4}, {0, 1, 2, 3, 4, 0}, {0, 1, 2, 3, 4, 4}, {2, 0, 2}, {3, 1, 1, 3}} {
		l, e := Ring(g, members)
		wantNone(t, "a member that stands twice", l, e, api.ErrShape)
	}
	for x := range g.N {
		for y := range g.N {
			l, e := Ring(g, []int{x, y})
			if x == y {
				wantNone(t, "the same", l, e, api.ErrShape)
			} else {
				wantList(t, "two", l, e, plainRing(allNeighbours(g), []int{x, y})...)
			}
		}
	}
}

// Promise 7.2: as many members as a list may have, and one more, whatever stands in them.
func TestRingLong(t *testing.T) {
	for _, g := range []api.Graph{way(5), {N: api.MaxVertices}} {
		for _, v := range []int{0, -1, g.N} {
			members := slices.Repeat([]int{v}, api.MaxItems+1)
			l, e := Ring(g, members)
			wantNone(t, "too many", l, e, api.ErrLong)
			want := api.ErrShape
			if v != 0 {
				want = api.ErrNone
			}
			l, e = Ring(g, members[:api.MaxItems])
			wantNone(t, "as many as may be", l, e, want)
		}
		members := append(count(g.N), make([]int, api.MaxItems-g.N)...)
		l, e := Ring(g, members)
		wantNone(t, "all, and the first one again", l, e, api.ErrShape)
		members[api.MaxItems-1] = g.N
		l, e = Ring(g, members)
		wantNone(t, "the last one is none", l, e, api.ErrNone)
		l, e = Ring(g, members[:g.N])
		wantList(t, "all", l, e)
	}
}

// Promise 7.3: the order of all vertices of many graphs.
func TestOrder(t *testing.T) {
	wantOrder := func(g api.Graph) {
		l, e := Order(g)
		wantList(t, "Order", l, e, plainOrder(allNeighbours(g))...)
		if t.Failed() {
			t.Fatalf("of %v", g)
		}
	}
	manyGraphs(wantOrder)
	for _, g := range greatGraphs() {
		wantOrder(g)
	}
}

// Promise 7.3: parts come one behind the other, by their least vertices; each begins around that one.
func TestOrderOfParts(t *testing.T) {
	g := api.Graph{N: 9, Arcs: []api.Arc{{From: 8, To: 0}, {From: 4, To: 8}, {From: 7, To: 1}, {From: 5, To: 1}, {From: 6, To: 5}, {From: 3, To: 3}}}
	l, e := Order(g)
	wantList(t, "Order", l, e, 0, 8, 4, 1, 5, 7, 6, 2, 3)
	manyGraphs(func(g api.Graph) {
		l, e := Order(g)
		var want []int
		for centre := range g.N {
			if slices.Contains(want, centre) {
				continue
			}
			part, _ := Region(g, centre, api.MaxVertices)
			want = append(want, part...)
		}
		wantList(t, "Order of regions", l, e, want...)
	})
}

// Promise 7.4: regions are connected, nearer vertices come first, greater ones begin with lesser ones; and they end only where nothing is beside them.
func TestRegionsFollow(t *testing.T) {
	draw := noise()
	follow := func(g api.Graph, centre int, sizes []int) {
		steps := stepsFrom(g, centre)
		reached := 0
		for _, s := range steps {
			if s >= 0 {
				reached++
			}
		}
		var before []int
		for _, most := range sizes {
			l, e := Region(g, centre, most)
			if e != api.OK || len(l) != min(most, reached) || l[0] != centre || !slices.Equal(l[:len(before)], before) {
				t.Fatalf("Region around %d of %d of %v: %v, %v; a lesser one: %v", centre, most, g, l, e, before)
			}
			for i, v := range l[1:] {
				ahead := l[i]
				if steps[v] < steps[ahead] || (steps[v] == 0) {
					t.Fatalf("Region around %d of %d of %v: %v: %d lies nearer than %d", centre, most, g, l, v, ahead)
				}
				beside := func(a api.Arc) bool {
					return (a.From == v && slices.Contains(l[:i+1], a.To)) || (a.To == v && slices.Contains(l[:i+1], a.From))
				}
				if !slices.ContainsFunc(g.Arcs, beside) {
					t.Fatalf("Region around %d of %d of %v: %v: nothing leads to %d", centre, most, g, l, v)
				}
			}
			before = l
		}
	}
	manyGraphs(func(g api.Graph) { follow(g, draw(g.N), append(count(g.N + 2)[1:], api.MaxVertices)) })
	for _, g := range greatGraphs() {
		follow(g, draw(g.N), []int{1, 40, 500})
	}
}

// Promises 7.1 to 7.3: directions, weights and the order of arcs change nothing, nor do arcs that stand twice.
func TestArcsAlike(t *testing.T) {
	draw := noise()
	manyGraphs(func(g api.Graph) {
		h := api.Graph{N: g.N}
		for _, a := range slices.Backward(g.Arcs) {
			arc := api.Arc{From: a.To, To: a.From, Weight: uint32(draw(99))}
			h.Arcs = append(h.Arcs, arc)
			if draw(2) == 0 {
				h.Arcs = append(h.Arcs, a, api.Arc{From: a.To, To: a.To})
			}
		}
		centre, most := draw(g.N), 1+draw(g.N)
		want, e := Region(g, centre, most)
		l, e2 := Region(h, centre, most)
		wantList(t, "Region", l, max(e, e2), want...)
		ring, e := Ring(g, want)
		l, e2 = Ring(h, want)
		wantList(t, "Ring", l, max(e, e2), ring...)
		want, e = Order(g)
		l, e2 = Order(h)
		wantList(t, "Order", l, max(e, e2), want...)
	})
}

// Promises 7.1 to 7.3, R1, R5: all calls answer what Check refuses, ahead of what else is wrong, and nothing beside it.
func TestWrongGraphs(t *testing.T) {
	many := make([]api.Arc, api.MaxArcs+1)
	for name, x := range map[string]struct {
		g    api.Graph
		want api.Errno
	}{
		"no vertex":           {api.Graph{}, api.ErrRange},
		"N below 0":           {api.Graph{N: math.MinInt}, api.ErrRange},
		"too many vertices":   {api.Graph{N: api.MaxVertices + 1}, api.ErrRange},
		"the greatest N":      {api.Graph{N: math.MaxInt}, api.ErrRange},
		"too many arcs":       {api.Graph{N: 2, Arcs: many}, api.ErrLong},
		"an end too great":    {api.Graph{N: 2, Arcs: []api.Arc{{To: 1}, {To: 2}}}, api.ErrArc},
		"a beginning below 0": {api.Graph{N: 2, Arcs: []api.Arc{{From: -1}}}, api.ErrArc},
	} {
		for _, centre := range []int{0, 1, 2, -1, math.MinInt, math.MaxInt} {
			for _, most := range []int{1, 0, math.MinInt, api.MaxVertices, api.MaxVertices + 1} {
				l, e := Region(x.g, centre, most)
				wantNone(t, name+": Region", l, e, x.want)
				l, e = Core(x.g, centre, most)
				wantNone(t, name+": Core", l, e, x.want)
			}
		}
		for _, members := range [][]int{nil, {0}, {0, 0}, {-1}, make([]int, api.MaxItems+1)} {
			l, e := Ring(x.g, members)
			wantNone(t, name+": Ring", l, e, x.want)
		}
		l, e := Order(x.g)
		wantNone(t, name+": Order", l, e, x.want)
	}
}

// R4: what is handed in stays as it was, spare room too, what lies there is not read, and answers are new memory.
func TestMemory(t *testing.T) {
	bad := api.Arc{From: -7, To: -7, Weight: 7}
	room := append(tangle().Arcs, bad, bad)
	g := api.Graph{N: 10, Arcs: room[:len(room)-2]}
	members := []int{9, 3, 9, -1}
	arcsBefore, membersBefore := slices.Clone(room), slices.Clone(members)
	var answers [][]int
	took := func(l []int, e api.Errno) {
		t.Helper()
		if e != api.OK || len(l) == 0 {
			t.Error(l, e)
		}
		answers = append(answers, l)
	}
	for range 2 {
		took(Region(g, 3, 9))
		took(Core(g, 3, 9))
		took(Ring(g, members[:2]))
		took(Order(g))
	}
	for i, l := range answers {
		for _, other := range answers[:i] {
			if overlap(l, other) {
				t.Error("two answers share memory")
			}
		}
		if overlap(l, room) || overlap(l, members) {
			t.Error("an answer shares memory with what was handed in")
		}
		_ = append(l, make([]int, cap(l)-len(l))...)
	}
	if !slices.Equal(room, arcsBefore) || !slices.Equal(members, membersBefore) {
		t.Error("what was handed in is changed")
	}
	l, e := Region(g, 3, 9)
	wantList(t, "Region after all", l, e, 3, 0, 7, 9, 1, 2)
}

// R3: a list without a member may be nil or empty.
func TestEmptyLists(t *testing.T) {
	for _, none := range [][]api.Arc{nil, {}} {
		g := api.Graph{N: 2, Arcs: none}
		l, e := Region(g, 1, 2)
		wantList(t, "Region", l, e, 1)
		l, e = Order(g)
		wantList(t, "Order", l, e, 0, 1)
		for _, members := range [][]int{nil, {}, {1}} {
			l, e := Ring(g, members)
			wantList(t, "Ring", l, e)
		}
	}
}

// R7: the same call tells the same, whatever was called ahead, and whatever room lies behind the lists.
func TestTellsTheSame(t *testing.T) {
	draw := noise()
	for range 40 {
		n := 1 + draw(20)
		g := drawn(draw, n, 2*n)
		centre, most := draw(n), 1+draw(n)
		first, _ := Region(g, centre, most)
		order, _ := Order(g)
		ring, _ := Ring(g, first)
		for range 3 {
			Order(drawn(draw, n, n))
			h := api.Graph{N: n, Arcs: slices.Grow(slices.Clone(g.Arcs), 1+draw(9))}
			l, e := Region(h, centre, most)
			wantList(t, "Region", l, e, first...)
			l, e = Order(h)
			wantList(t, "Order", l, e, order...)
			l, e = Ring(h, slices.Grow(slices.Clone(first), 1+draw(9)))
			wantList(t, "Ring", l, e, ring...)
		}
	}
}

// Promises 7.1 to 7.3, P1: graphs, centres, sizes and members that are made up.
func FuzzGrow(f *testing.F) {
	f.Add(5, 2, 4, []byte{0, 1, 2, 1, 2, 3, 4, 3}, []byte{1, 2})
	f.Add(2, 1, 9, []byte{}, []byte{0, 0})
	f.Add(0, -1, 0, []byte{255, 3}, []byte{255})
	f.Fuzz(func(t *testing.T, n, centre, most int, ends, numbers []byte) {
		if n > 60 {
			n = n % 60
		}
		g := api.Graph{N: n}
		for i := 0; i+1 < len(ends); i += 2 {
			g.Arcs = append(g.Arcs, api.Arc{From: int(ends[i]) % max(n, 1), To: int(ends[i+1]) % max(n, 1)})
		}
		var members []int
		wantE := api.OK
		for _, b := range numbers {
			v := int(int8(b))
			if v < 0 || v >= n {
				wantE = api.ErrNone
			} else if wantE == api.OK && slices.Contains(members, v) {
				wantE = api.ErrShape
			}
			members = append(members, v)
		}
		if n < 1 || len(g.Arcs) > api.MaxArcs || len(members) > api.MaxItems {
			if l, e := Region(g, centre, most); n < 1 && (e != api.ErrRange || len(l) != 0) {
				t.Fatal(l, e)
			}
			return
		}
		beside := allNeighbours(g)
		l, e := Order(g)
		wantList(t, "Order", l, e, plainOrder(beside)...)
		l, e = Ring(g, members)
		if wantE != api.OK {
			wantNone(t, "Ring", l, e, wantE)
		} else {
			wantList(t, "Ring", l, e, plainRing(beside, members)...)
		}
		l, e = Region(g, centre, most)
		core, e2 := Core(g, centre, most)
		switch {
		case centre < 0 || centre >= n:
			wantNone(t, "Region", l, e, api.ErrNone)
			wantNone(t, "Core", core, e2, api.ErrNone)
		case most < 1 || most > api.MaxVertices:
			wantNone(t, "Region", l, e, api.ErrRange)
			wantNone(t, "Core", core, e2, api.ErrRange)
		default:
			wantRegions(t, g, beside, centre, []int{most})
		}
	})
}
