package graph

import (
	"math"
	"reflect"
	"slices"
	"testing"
	"unsafe"

	"flyover/api"
)

// triangle is the graph of the document's first example.
func triangle() api.Graph {
	return api.Graph{N: 3, Arcs: []api.Arc{{From: 0, To: 1, Weight: 5}, {From: 1, To: 2, Weight: 7}, {From: 0, To: 2, Weight: 20}}}
}

// tangle has an arc from a vertex to itself, several between the same two in both directions, a vertex without an arc, two parts.
func tangle() api.Graph {
	return api.Graph{N: 6, Arcs: []api.Arc{
		{From: 4, To: 1, Weight: 9}, {From: 1, To: 4, Weight: 9}, {From: 4, To: 1, Weight: 8}, {From: 2, To: 2, Weight: math.MaxUint32},
		{From: 5, To: 0, Weight: 0}, {From: 0, To: 2, Weight: 1}, {From: 1, To: 1, Weight: 3}, {From: 4, To: 1, Weight: 9},
	}}
}

// noise answers a function that draws numbers below a bound, the same ones each time.
func noise() func(bound int) int {
	state := uint32(1)
	return func(bound int) int {
		state = state*1664525 + 1013904223
		return int(state>>8) % bound
	}
}

// drawn answers a graph whose arcs are drawn.
func drawn(draw func(int) int, n, arcs int) api.Graph {
	g := api.Graph{N: n}
	for range arcs {
		g.Arcs = append(g.Arcs, api.Arc{From: draw(n), To: draw(n), Weight: uint32(draw(1 << 20))})
	}
	return g
}

// smallGraphs goes through all graphs of at most most arcs; the weights count up.
func smallGraphs(n, most int, do func(g api.Graph)) {
	var grow func(arcs []api.Arc)
	grow = func(arcs []api.Arc) {
		do(api.Graph{N: n, Arcs: arcs})
		if len(arcs) == most {
			return
		}
		for from := range n {
			for to := range n {
				grow(append(arcs[:len(arcs):len(arcs)], api.Arc{From: from, To: to, Weight: uint32(len(arcs) + 1)}))
			}
		}
	}
	grow(nil)
}

// manyGraphs goes through all small graphs, and through some that are greater, up to the greatest.
func manyGraphs(do func(g api.Graph)) {
	do(triangle())
	do(tangle())
	smallGraphs(1, 3, do)
	smallGraphs(2, 4, do)
	smallGraphs(3, 3, do)
	smallGraphs(4, 2, do)
	draw := noise()
	for n := 1; n < 40; n++ {
		do(drawn(draw, n, draw(2*n)))
	}
	do(api.Graph{N: api.MaxVertices})
	do(drawn(draw, api.MaxVertices, api.MaxVertices/2))
	do(drawn(draw, api.MaxVertices, api.MaxArcs))
}

func copyOf(g api.Graph) api.Graph {
	return api.Graph{N: g.N, Arcs: append([]api.Arc(nil), g.Arcs...)}
}

func sameGraph(a, b api.Graph) bool {
	return a.N == b.N && slices.Equal(a.Arcs, b.Arcs)
}

// wrong is a graph that is not right, and what Check tells of it.
type wrong struct {
	name string
	g    api.Graph
	at   int
	e    api.Errno
}

func wrongGraphs() []wrong {
	right := api.Arc{From: 0, To: 1, Weight: 1}
	many := make([]api.Arc, api.MaxArcs+1)
	manyBad := slices.Clone(many)
	manyBad[0] = api.Arc{From: -1}
	last := slices.Clone(many[:api.MaxArcs])
	last[api.MaxArcs-1].To = 1
	l := []wrong{
		{"N of 0", api.Graph{}, 0, api.ErrRange},
		{"N of 0 with an arc", api.Graph{Arcs: []api.Arc{{}}}, 0, api.ErrRange},
		{"N of -1", api.Graph{N: -1}, 0, api.ErrRange},
		{"the least N", api.Graph{N: math.MinInt}, 0, api.ErrRange},
		{"one vertex too many", api.Graph{N: api.MaxVertices + 1}, 0, api.ErrRange},
		{"the greatest N", api.Graph{N: math.MaxInt, Arcs: []api.Arc{{From: 0, To: 1}}}, 0, api.ErrRange},
		{"N ahead of arcs", api.Graph{N: api.MaxVertices + 1, Arcs: manyBad}, 0, api.ErrRange},
		{"N ahead of an end", api.Graph{N: 0, Arcs: []api.Arc{right, {From: -1}}}, 0, api.ErrRange},
		{"one arc too many", api.Graph{N: 1, Arcs: many}, 0, api.ErrLong},
		{"arcs ahead of an end", api.Graph{N: 1, Arcs: manyBad}, 0, api.ErrLong},
		{"many arcs", api.Graph{N: api.MaxVertices, Arcs: make([]api.Arc, api.MaxItems+1)}, 0, api.ErrLong},
		{"the last arc of all", api.Graph{N: 1, Arcs: last}, api.MaxArcs - 1, api.ErrArc},
		{"two bad arcs", api.Graph{N: 2, Arcs: []api.Arc{right, {From: 2}, {To: -1}}}, 1, api.ErrArc},
		{"a vertex above the greatest graph's", api.Graph{N: api.MaxVertices, Arcs: []api.Arc{{From: api.MaxVertices}}}, 0, api.ErrArc},
	}
	for _, end := range []int{math.MinInt, -2, -1, 2, 3, api.MaxVertices, math.MaxInt} {
		for at := range 3 {
			arcs := []api.Arc{right, right, right}
			arcs[at].From = end
			l = append(l, wrong{"a beginning", api.Graph{N: 2, Arcs: arcs}, at, api.ErrArc})
			arcs = slices.Clone(arcs)
			arcs[at].To = end
			l = append(l, wrong{"both ends", api.Graph{N: 2, Arcs: arcs}, at, api.ErrArc})
			arcs = slices.Clone(arcs)
			arcs[at].From = 1
			l = append(l, wrong{"an end", api.Graph{N: 2, Arcs: arcs}, at, api.ErrArc})
		}
	}
	return l
}

// wantNoGraph asks for an error beside which nothing is told (R5).
func wantNoGraph(t *testing.T, name string, h api.Graph, e, want api.Errno) {
	t.Helper()
	if e != want || h.N != 0 || len(h.Arcs) != 0 {
		t.Errorf("%s: %d vertices, %d arcs, %v, want %v and nothing", name, h.N, len(h.Arcs), e, want)
	}
}

func wantGraph(t *testing.T, name string, h api.Graph, e api.Errno, want api.Graph) {
	t.Helper()
	if e != api.OK || !sameGraph(h, want) {
		t.Errorf("%s: %v, %v, want %v", name, h, e, want)
	}
}

// Promise 3.1: graphs that are right.
func TestCheckRight(t *testing.T) {
	right := func(g api.Graph) {
		t.Helper()
		if at, e := Check(g); at != 0 || e != api.OK {
			t.Errorf("Check of %d vertices, %d arcs: %d, %v", g.N, len(g.Arcs), at, e)
		}
	}
	manyGraphs(right)
	right(api.Graph{N: 1})
	right(api.Graph{N: 1, Arcs: []api.Arc{}})
	right(api.Graph{N: 1, Arcs: []api.Arc{{}, {}}})
	right(api.Graph{N: 1, Arcs: make([]api.Arc, api.MaxArcs)})
	right(api.Graph{N: api.MaxVertices})
	right(api.Graph{N: api.MaxVertices, Arcs: []api.Arc{{From: api.MaxVertices - 1, To: 0, Weight: math.MaxUint32}, {From: 0, To: api.MaxVertices - 1}}})
}

// Promise 3.1: graphs that are not, where several things are wrong the first one named.
func TestCheckWrong(t *testing.T) {
	for _, w := range wrongGraphs() {
		if at, e := Check(w.g); at != w.at || e != w.e {
			t.Errorf("%s: Check of %d vertices, %d arcs: %d, %v, want %d, %v", w.name, w.g.N, len(w.g.Arcs), at, e, w.at, w.e)
		}
	}
}

// Promise 3.1: of all arcs with ends around 0 to N - 1, just those with both ends in it are right.
func TestCheckEnds(t *testing.T) {
	for n := 1; n < 5; n++ {
		for from := -2; from < n+2; from++ {
			for to := -2; to < n+2; to++ {
				want := api.ErrArc
				if from >= 0 && from < n && to >= 0 && to < n {
					want = api.OK
				}
				if at, e := Check(api.Graph{N: n, Arcs: []api.Arc{{From: from, To: to}}}); at != 0 || e != want {
					t.Errorf("N %d, arc %d to %d: %d, %v, want %v", n, from, to, at, e, want)
				}
			}
		}
	}
}

// Promise 3.1, R1, R5: all calls answer what Check refuses, ahead of what else is wrong, and nothing beside it.
func TestAllRefuse(t *testing.T) {
	tooMany := make([]api.Change, api.MaxItems+1)
	for _, w := range wrongGraphs() {
		for _, v := range []int{0, -1, math.MaxInt} {
			out, e1 := Out(w.g, v)
			in, e2 := In(w.g, v)
			near, e3 := Neighbours(w.g, v)
			if e1 != w.e || e2 != w.e || e3 != w.e || len(out)+len(in)+len(near) != 0 {
				t.Errorf("%s, vertex %d: %v %v %v, %v %v %v, want %v", w.name, v, out, in, near, e1, e2, e3, w.e)
			}
		}
		h, e := Reverse(w.g)
		wantNoGraph(t, w.name+": Reverse", h, e, w.e)
		for _, weights := range [][]uint32{nil, make([]uint32, len(w.g.Arcs)), make([]uint32, len(w.g.Arcs)+1), make([]uint32, api.MaxItems+1)} {
			h, e = Weigh(w.g, weights)
			wantNoGraph(t, w.name+": Weigh", h, e, w.e)
		}
		for _, l := range [][]api.Change{nil, {{Arc: 0}}, {{Arc: -1}}, tooMany} {
			h, e = Change(w.g, l)
			wantNoGraph(t, w.name+": Change", h, e, w.e)
		}
		for _, keep := range [][]bool{nil, {false, false}, {true, true}, make([]bool, api.MaxItems+1)} {
			h, vertices, arcs, e := Induced(w.g, keep)
			wantNoGraph(t, w.name+": Induced", h, e, w.e)
			if len(vertices)+len(arcs) != 0 {
				t.Errorf("%s: Induced tells %v, %v", w.name, vertices, arcs)
			}
		}
		if labels, e := Parts(w.g); e != w.e || len(labels) != 0 {
			t.Errorf("%s: Parts: %v, %v, want %v", w.name, labels, e, w.e)
		}
	}
}

// Promise 3.3: Reverse.
func TestReverse(t *testing.T) {
	h, e := Reverse(triangle())
	wantGraph(t, "triangle", h, e, api.Graph{N: 3, Arcs: []api.Arc{{From: 1, To: 0, Weight: 5}, {From: 2, To: 1, Weight: 7}, {From: 2, To: 0, Weight: 20}}})
	h, e = Reverse(api.Graph{N: 7})
	wantGraph(t, "no arc", h, e, api.Graph{N: 7})
	manyGraphs(func(g api.Graph) {
		want := copyOf(g)
		for i, arc := range g.Arcs {
			want.Arcs[i] = api.Arc{From: arc.To, To: arc.From, Weight: arc.Weight}
		}
		h, e := Reverse(g)
		wantGraph(t, "Reverse", h, e, want)
	})
}

// Promise 3.3: Weigh.
func TestWeigh(t *testing.T) {
	h, e := Weigh(triangle(), []uint32{0, math.MaxUint32, 20})
	wantGraph(t, "triangle", h, e, api.Graph{N: 3, Arcs: []api.Arc{{From: 0, To: 1, Weight: 0}, {From: 1, To: 2, Weight: math.MaxUint32}, {From: 0, To: 2, Weight: 20}}})
	for _, none := range [][]uint32{nil, {}} {
		h, e = Weigh(api.Graph{N: 2}, none)
		wantGraph(t, "no arc", h, e, api.Graph{N: 2})
	}
	manyGraphs(func(g api.Graph) {
		want, weights := copyOf(g), make([]uint32, len(g.Arcs))
		for i := range weights {
			weights[i] = uint32(i) * 2654435761
			want.Arcs[i].Weight = weights[i]
		}
		h, e := Weigh(g, weights)
		wantGraph(t, "Weigh", h, e, want)
	})
}

// Promise 3.3: Weigh of another number of weights, also of more than any list may have.
func TestWeighShape(t *testing.T) {
	for _, g := range []api.Graph{triangle(), tangle(), {N: 1}, {N: 1, Arcs: make([]api.Arc, api.MaxArcs)}} {
		for _, size := range []int{0, 1, len(g.Arcs) - 1, len(g.Arcs) + 1, g.N, api.MaxArcs + 1, api.MaxItems, api.MaxItems + 1} {
			if size < 0 || size == len(g.Arcs) {
				continue
			}
			// Spare room is none of a list's members, even if it would make their number right.
			h, e := Weigh(g, make([]uint32, size, size+api.MaxArcs))
			wantNoGraph(t, "Weigh", h, e, api.ErrShape)
		}
	}
}

// Promise 3.3: Change, also of no member, of an arc twice, of all.
func TestChange(t *testing.T) {
	weighed := func(a, b, c uint32) api.Graph {
		g := triangle()
		g.Arcs[0].Weight, g.Arcs[1].Weight, g.Arcs[2].Weight = a, b, c
		return g
	}
	for name, x := range map[string]struct {
		l    []api.Change
		want api.Graph
	}{
		"nil":               {nil, weighed(5, 7, 20)},
		"empty":             {[]api.Change{}, weighed(5, 7, 20)},
		"one":               {[]api.Change{{Arc: 1, Weight: 6}}, weighed(5, 6, 20)},
		"the last":          {[]api.Change{{Arc: 2, Weight: 0}}, weighed(5, 7, 0)},
		"twice":             {[]api.Change{{Arc: 0, Weight: 9}, {Arc: 0, Weight: 3}}, weighed(3, 7, 20)},
		"twice, the same":   {[]api.Change{{Arc: 0, Weight: 9}, {Arc: 0, Weight: 9}}, weighed(9, 7, 20)},
		"there and back":    {[]api.Change{{Arc: 2, Weight: 1}, {Arc: 2, Weight: 20}}, weighed(5, 7, 20)},
		"twice, others too": {[]api.Change{{Arc: 0, Weight: 9}, {Arc: 2, Weight: 4}, {Arc: 0, Weight: 11}, {Arc: 1, Weight: math.MaxUint32}}, weighed(11, math.MaxUint32, 4)},
	} {
		h, e := Change(triangle(), x.l)
		wantGraph(t, name, h, e, x.want)
	}
	h, e := Change(api.Graph{N: 3}, nil)
	wantGraph(t, "no arc", h, e, api.Graph{N: 3})
}

// Promise 3.3: the last member of each arc counts, others change nothing.
func TestChangeMany(t *testing.T) {
	draw := noise()
	for range 200 {
		g := drawn(draw, 1+draw(9), 1+draw(30))
		l := make([]api.Change, draw(60))
		for i := range l {
			l[i] = api.Change{Arc: draw(len(g.Arcs)), Weight: uint32(draw(1 << 20))}
		}
		want := copyOf(g)
		for id := range want.Arcs {
			for i := len(l) - 1; i >= 0; i-- {
				if l[i].Arc == id {
					want.Arcs[id].Weight = l[i].Weight
					break
				}
			}
		}
		h, e := Change(g, l)
		wantGraph(t, "Change", h, e, want)
	}
}

// Promise 3.3: as many changes as may be, and one more, whatever stands in them.
func TestChangeLong(t *testing.T) {
	g := api.Graph{N: 2, Arcs: make([]api.Arc, api.MaxArcs)}
	l := make([]api.Change, api.MaxItems+1)
	want := copyOf(g)
	for i := range l {
		l[i] = api.Change{Arc: i % api.MaxArcs, Weight: uint32(i)}
	}
	for id := range want.Arcs {
		want.Arcs[id].Weight = uint32(api.MaxItems - api.MaxArcs + id)
	}
	h, e := Change(g, l[:api.MaxItems])
	wantGraph(t, "MaxItems", h, e, want)
	h, e = Change(g, l)
	wantNoGraph(t, "one more", h, e, api.ErrLong)
	l[0].Arc = -1
	h, e = Change(g, l)
	wantNoGraph(t, "one more, and no id", h, e, api.ErrLong)
	h, e = Change(g, l[:api.MaxItems])
	wantNoGraph(t, "no id", h, e, api.ErrNone)
}

// Promise 3.3: a change of an arc that is none, at the first member and at later ones.
func TestChangeNone(t *testing.T) {
	g := triangle()
	for _, arc := range []int{math.MinInt, -1, 3, 4, api.MaxArcs, math.MaxInt} {
		for at := range 4 {
			l := []api.Change{{Arc: 0, Weight: 1}, {Arc: 1, Weight: 2}, {Arc: 2, Weight: 3}, {Arc: 0, Weight: 4}}
			l[at].Arc = arc
			h, e := Change(g, l)
			wantNoGraph(t, "Change", h, e, api.ErrNone)
		}
	}
	h, e := Change(api.Graph{N: 9}, []api.Change{{Arc: 0}})
	wantNoGraph(t, "no arc", h, e, api.ErrNone)
	// An arc in the spare room is none of the graph's.
	g.Arcs = g.Arcs[:2]
	h, e = Change(g, []api.Change{{Arc: 2}})
	wantNoGraph(t, "behind the arcs", h, e, api.ErrNone)
	if !sameGraph(api.Graph{N: 3, Arcs: g.Arcs[:3]}, triangle()) {
		t.Error("a change that is refused changed what was handed in")
	}
}

// Promise 3.6: turned about twice a graph is what it was, and each arc's two ends have changed places.
func TestReverseTwice(t *testing.T) {
	manyGraphs(func(g api.Graph) {
		h, _ := Reverse(g)
		back, e := Reverse(h)
		wantGraph(t, "Reverse twice", back, e, g)
	})
}

// overlap says whether two lists share memory, their spare room too.
func overlap[A, B any](a []A, b []B) bool {
	if cap(a) == 0 || cap(b) == 0 {
		return false
	}
	var x A
	var y B
	from, to := uintptr(unsafe.Pointer(unsafe.SliceData(a))), uintptr(unsafe.Pointer(unsafe.SliceData(b)))
	return from < to+uintptr(cap(b))*unsafe.Sizeof(y) && to < from+uintptr(cap(a))*unsafe.Sizeof(x)
}

// R4: what is handed in stays as it was, spare room too, and answers are new memory.
func TestMemory(t *testing.T) {
	bad := api.Arc{From: -7, To: -7, Weight: 7}
	arcs := append(tangle().Arcs, bad, bad)
	g := api.Graph{N: 6, Arcs: arcs[:len(arcs)-2]}
	weights := []uint32{1, 2, 3, 4, 5, 6, 7, 8, 99, 99}
	changes := []api.Change{{Arc: 3, Weight: 70}, {Arc: 3, Weight: 71}, {Arc: -1, Weight: 9}}
	keep := []bool{true, true, true, false, true, true, true, true}
	before := []any{slices.Clone(arcs), slices.Clone(weights), slices.Clone(changes), slices.Clone(keep)}
	var ints [][]int
	var graphs []api.Graph
	took := func(l []int, e api.Errno) {
		t.Helper()
		if e != api.OK {
			t.Error(e)
		}
		ints = append(ints, l)
	}
	tookGraph := func(h api.Graph, e api.Errno) {
		t.Helper()
		if e != api.OK {
			t.Error(e)
		}
		graphs = append(graphs, h)
	}
	for range 2 {
		took(Out(g, 4))
		took(In(g, 1))
		took(Neighbours(g, 4))
		took(Parts(g))
		tookGraph(Reverse(g))
		tookGraph(Weigh(g, weights[:8]))
		tookGraph(Change(g, nil))
		tookGraph(Change(g, changes[:2]))
		h, vertices, ids, e := Induced(g, keep[:6])
		took(vertices, e)
		took(ids, e)
		tookGraph(h, e)
	}
	for i, l := range ints {
		for _, other := range ints[:i] {
			if overlap(l, other) {
				t.Error("two answers share memory", l, other)
			}
		}
		if overlap(l, arcs) || overlap(l, weights) || overlap(l, changes) || overlap(l, keep) {
			t.Error("an answer shares memory with an argument", l)
		}
	}
	for i, h := range graphs {
		for _, other := range graphs[:i] {
			if overlap(h.Arcs, other.Arcs) {
				t.Error("two graphs share memory", h, other)
			}
		}
		if overlap(h.Arcs, arcs) {
			t.Error("a graph shares memory with an argument", h)
		}
	}
	if !reflect.DeepEqual(before, []any{arcs, weights, changes, keep}) {
		t.Error("an argument was changed", arcs, weights, changes, keep)
	}
}

// R3, R7: a list that is nil or empty tells the same, and the same call does so again.
func TestTellsTheSame(t *testing.T) {
	tell := func(g api.Graph, v int, keep []bool) []any {
		var l []any
		keepAll := func(x ...any) {
			for _, y := range x {
				switch z := y.(type) {
				case []int:
					y = append([]int{}, z...)
				case api.Graph:
					y = api.Graph{N: z.N, Arcs: append([]api.Arc{}, z.Arcs...)}
				}
				l = append(l, y)
			}
		}
		keepAll(Check(g))
		keepAll(Out(g, v))
		keepAll(In(g, v))
		keepAll(Neighbours(g, v))
		keepAll(Reverse(g))
		keepAll(Weigh(g, nil))
		keepAll(Change(g, nil))
		keepAll(Induced(g, keep))
		keepAll(Parts(g))
		return l
	}
	one := api.Graph{N: 2}
	two := api.Graph{N: 2, Arcs: []api.Arc{}}
	three := api.Graph{N: 2, Arcs: []api.Arc{{From: 5}}[:0]}
	for v := -1; v < 3; v++ {
		want := tell(one, v, []bool{true, false})
		if !reflect.DeepEqual(tell(two, v, []bool{true, false}), want) || !reflect.DeepEqual(tell(three, v, []bool{true, false}), want) {
			t.Error("nil and empty are not the same", v)
		}
	}
	if !reflect.DeepEqual(tell(one, 0, nil), tell(one, 0, []bool{})) {
		t.Error("nothing kept, nil or empty, is not the same")
	}
	manyGraphs(func(g api.Graph) {
		keep := make([]bool, g.N)
		keep[g.N/2] = true
		if !reflect.DeepEqual(tell(g, 0, keep), tell(g, 0, keep)) {
			t.Errorf("not the same again: %d vertices, %d arcs", g.N, len(g.Arcs))
		}
	})
}
