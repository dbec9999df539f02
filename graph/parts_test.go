package graph

import (
	"math"
	"slices"
	"testing"

	"flyover/api"
)

// wantInduced holds an answer of Induced against what the chapter says, looking for each vertex and arc anew.
func wantInduced(t *testing.T, g api.Graph, keep []bool) {
	t.Helper()
	var wantVertices, wantArcs []int
	var want api.Graph
	for v := range g.N {
		if keep[v] {
			wantVertices = append(wantVertices, v)
		}
	}
	want.N = len(wantVertices)
	for id, arc := range g.Arcs {
		from, to := slices.Index(wantVertices, arc.From), slices.Index(wantVertices, arc.To)
		if from >= 0 && to >= 0 {
			wantArcs = append(wantArcs, id)
			want.Arcs = append(want.Arcs, api.Arc{From: from, To: to, Weight: arc.Weight})
		}
	}
	h, vertices, arcs, e := Induced(g, keep)
	if want.N == 0 {
		wantNone(t, g, keep, api.ErrNone)
		return
	}
	if e != api.OK || !sameGraph(h, want) || !slices.Equal(vertices, wantVertices) || !slices.Equal(arcs, wantArcs) {
		t.Errorf("Induced of %v, %v: %v, %v, %v, %v, want %v, %v, %v", g, keep, h, vertices, arcs, e, want, wantVertices, wantArcs)
	}
	if at, e := Check(h); at != 0 || e != api.OK {
		t.Errorf("Induced of %v, %v is not right: %d, %v", g, keep, at, e)
	}
}

func wantNone(t *testing.T, g api.Graph, keep []bool, want api.Errno) {
	t.Helper()
	h, vertices, arcs, e := Induced(g, keep)
	wantNoGraph(t, "Induced", h, e, want)
	if len(vertices)+len(arcs) != 0 {
		t.Errorf("Induced tells %v, %v beside %v", vertices, arcs, e)
	}
}

// Promise 3.4: the chapter's example, arcs to itself, all kept, one kept.
func TestInduced(t *testing.T) {
	for _, x := range []struct {
		g              api.Graph
		keep           []bool
		want           api.Graph
		vertices, arcs []int
	}{
		{triangle(), []bool{true, false, true}, api.Graph{N: 2, Arcs: []api.Arc{{From: 0, To: 1, Weight: 20}}}, []int{0, 2}, []int{2}},
		{triangle(), []bool{false, true, true}, api.Graph{N: 2, Arcs: []api.Arc{{From: 0, To: 1, Weight: 7}}}, []int{1, 2}, []int{1}},
		{triangle(), []bool{true, true, true}, triangle(), []int{0, 1, 2}, []int{0, 1, 2}},
		{triangle(), []bool{false, false, true}, api.Graph{N: 1}, []int{2}, nil},
		{tangle(), []bool{false, false, true, false, false, false}, api.Graph{N: 1, Arcs: []api.Arc{{Weight: math.MaxUint32}}}, []int{2}, []int{3}},
		{tangle(), []bool{false, false, false, true, false, false}, api.Graph{N: 1}, []int{3}, nil},
		{tangle(), []bool{false, true, false, false, true, true}, api.Graph{N: 3, Arcs: []api.Arc{
			{From: 1, To: 0, Weight: 9}, {From: 0, To: 1, Weight: 9}, {From: 1, To: 0, Weight: 8}, {From: 0, To: 0, Weight: 3}, {From: 1, To: 0, Weight: 9},
		}}, []int{1, 4, 5}, []int{0, 1, 2, 6, 7}},
		{api.Graph{N: 1}, []bool{true}, api.Graph{N: 1}, []int{0}, nil},
	} {
		h, vertices, arcs, e := Induced(x.g, x.keep)
		wantGraph(t, "Induced", h, e, x.want)
		wantList(t, "vertices", vertices, e, x.vertices...)
		wantList(t, "arcs", arcs, e, x.arcs...)
	}
}

// Promise 3.4: of many graphs, all choices of a few vertices, and some of many.
func TestInducedOfAll(t *testing.T) {
	draw := noise()
	manyGraphs(func(g api.Graph) {
		keep := make([]bool, g.N)
		if g.N < 6 {
			for choice := range 1 << g.N {
				for v := range keep {
					keep[v] = choice>>v&1 == 1
				}
				wantInduced(t, g, keep)
			}
			return
		}
		for _, sixteenths := range []int{1, 8, 15, 16} {
			for v := range keep {
				keep[v] = draw(16) < sixteenths
			}
			keep[draw(g.N)] = true
			wantInduced(t, g, keep)
		}
		clear(keep)
		keep[g.N-1] = true
		wantInduced(t, g, keep)
	})
}

// Promise 3.4: what is induced of all vertices is the graph itself.
func TestInducedOfAllKept(t *testing.T) {
	manyGraphs(func(g api.Graph) {
		h, vertices, arcs, e := Induced(g, slices.Repeat([]bool{true}, g.N))
		wantGraph(t, "all kept", h, e, g)
		wantList(t, "vertices", vertices, e, rising(g.N)...)
		wantList(t, "arcs", arcs, e, rising(len(g.Arcs))...)
	})
}

// Promise 3.4: kept vertices of another number, ahead of none kept; and none kept.
func TestInducedRefuses(t *testing.T) {
	for _, g := range []api.Graph{triangle(), tangle(), {N: 1}, {N: api.MaxVertices}} {
		for _, size := range []int{0, 1, g.N - 1, g.N + 1, 2 * g.N, len(g.Arcs) + 8, api.MaxVertices + 1, api.MaxItems, api.MaxItems + 1} {
			if size == g.N {
				continue
			}
			// Spare room is none of a list's members, even if it would make their number right.
			wantNone(t, g, make([]bool, size, size+g.N), api.ErrShape)
			wantNone(t, g, slices.Repeat([]bool{true}, size), api.ErrShape)
		}
		wantNone(t, g, nil, api.ErrShape)
		wantNone(t, g, make([]bool, g.N), api.ErrNone)
		wantNone(t, g, append(make([]bool, g.N), true)[:g.N], api.ErrNone)
	}
}

// reached marks all vertices to which neighbours lead from v, going through all arcs till nothing is new.
func reached(g api.Graph, v int) []bool {
	marks := make([]bool, g.N)
	marks[v] = true
	for again := true; again; {
		again = false
		for _, arc := range g.Arcs {
			if marks[arc.From] != marks[arc.To] {
				marks[arc.From], marks[arc.To], again = true, true, true
			}
		}
	}
	return marks
}

// wantParts asks that two vertices have the same label just if they are connected, and that labels are tidy.
func wantParts(t *testing.T, g api.Graph) []int {
	t.Helper()
	labels, e := Parts(g)
	if e != api.OK || len(labels) != g.N {
		t.Fatalf("Parts of %d vertices: %d labels, %v", g.N, len(labels), e)
	}
	next := 0
	for v, label := range labels {
		if label < 0 || label > next {
			t.Fatalf("Parts of %v: %v is not tidy", g, labels)
		}
		if label == next {
			next++
			for w, mark := range reached(g, v) {
				if mark != (labels[w] == label) {
					t.Fatalf("Parts of %v: %v is wrong at %d and %d", g, labels, v, w)
				}
			}
		}
	}
	return labels
}

// Promise 3.5: the chapter's examples, arcs to itself, no arc at all.
func TestParts(t *testing.T) {
	for _, x := range []struct {
		g    api.Graph
		want []int
	}{
		{triangle(), []int{0, 0, 0}},
		{api.Graph{N: 4, Arcs: []api.Arc{{From: 3, To: 1}}}, []int{0, 1, 2, 1}},
		{api.Graph{N: 4, Arcs: []api.Arc{{From: 1, To: 3}}}, []int{0, 1, 2, 1}},
		{tangle(), []int{0, 1, 0, 2, 1, 0}},
		{api.Graph{N: 1}, []int{0}},
		{api.Graph{N: 1, Arcs: []api.Arc{{}, {}}}, []int{0}},
		{api.Graph{N: 3}, []int{0, 1, 2}},
		{api.Graph{N: 3, Arcs: []api.Arc{{From: 1, To: 1}}}, []int{0, 1, 2}},
		{api.Graph{N: 5, Arcs: []api.Arc{{From: 4, To: 3}, {From: 2, To: 3}, {From: 0, To: 4}}}, []int{0, 1, 0, 0, 0}},
		{api.Graph{N: 6, Arcs: []api.Arc{{From: 5, To: 4}, {From: 3, To: 2}, {From: 4, To: 2}}}, []int{0, 1, 2, 2, 2, 2}},
	} {
		labels, e := Parts(x.g)
		wantList(t, "Parts", labels, e, x.want...)
	}
}

// Promises 3.5, 3.6: of many graphs; of their reverse; of their arcs in another order.
func TestPartsOfAll(t *testing.T) {
	manyGraphs(func(g api.Graph) {
		labels := wantParts(t, g)
		h, _ := Reverse(g)
		again, e := Parts(h)
		wantList(t, "Parts of the reverse", again, e, labels...)
		slices.Reverse(h.Arcs)
		again, e = Parts(h)
		wantList(t, "Parts of other order", again, e, labels...)
	})
	smallGraphs(5, 3, func(g api.Graph) { wantParts(t, g) })
}

// Promise 3.5: long rows of vertices, whose arcs come from either end on, or between halves; the greatest graphs.
func TestPartsLongRows(t *testing.T) {
	rows := map[string]func(step int) int{
		"rising":  func(step int) int { return step },
		"falling": func(step int) int { return api.MaxVertices - 2 - step },
		"mixed":   func(step int) int { return step * 601 % (api.MaxVertices - 1) },
	}
	for name, place := range rows {
		g := api.Graph{N: api.MaxVertices}
		for step := range api.MaxVertices - 1 {
			v := place(step)
			g.Arcs = append(g.Arcs, api.Arc{From: v, To: v + 1})
		}
		labels, e := Parts(g)
		wantList(t, name, labels, e, make([]int, api.MaxVertices)...)
		g.Arcs = slices.DeleteFunc(g.Arcs, func(a api.Arc) bool { return a.From == 99 })
		want := append(make([]int, 100), slices.Repeat([]int{1}, api.MaxVertices-100)...)
		labels, e = Parts(g)
		wantList(t, name+", cut", labels, e, want...)
	}
	g := api.Graph{N: api.MaxVertices, Arcs: make([]api.Arc, api.MaxArcs)}
	for i := range g.Arcs {
		g.Arcs[i] = api.Arc{From: api.MaxVertices - 1 - i%512, To: i % 512}
	}
	want := make([]int, api.MaxVertices)
	for v := range 512 {
		want[v], want[api.MaxVertices-1-v] = v, v
	}
	labels, e := Parts(g)
	wantList(t, "pairs", labels, e, want...)
}

// Promises 3.1 to 3.6, P1: graphs and arguments that are made up.
func FuzzGraph(f *testing.F) {
	f.Add(3, 1, []byte{0, 1, 1, 2, 0, 2})
	f.Add(4, -1, []byte{3, 1})
	f.Add(0, 0, []byte{})
	f.Add(2, 2, []byte{0, 1, 255, 0})
	f.Add(api.MaxVertices+1, 5, []byte{7, 7})
	f.Fuzz(func(t *testing.T, n, v int, ends []byte) {
		g := api.Graph{N: n}
		for i := 0; i+1 < len(ends); i += 2 {
			g.Arcs = append(g.Arcs, api.Arc{From: int(int8(ends[i])), To: int(int8(ends[i+1])), Weight: uint32(i)})
		}
		at, e := Check(g)
		_, e1 := Out(g, v)
		_, e2 := Neighbours(g, v)
		h, e3 := Reverse(g)
		_, e4 := Change(g, []api.Change{{Arc: v, Weight: 1}})
		labels, e5 := Parts(g)
		if e3 != e || e5 != e {
			t.Fatalf("Check: %d, %v; Reverse: %v; Parts: %v", at, e, e3, e5)
		}
		if e != api.OK {
			if e1 != e || e2 != e || e4 != e || h.N != 0 || len(labels) != 0 {
				t.Fatal(e, e1, e2, e4, h, labels)
			}
			return
		}
		if (v >= 0 && v < n) != (e1 == api.OK) || (v >= 0 && v < n) != (e2 == api.OK) || (v >= 0 && v < len(g.Arcs)) != (e4 == api.OK) {
			t.Fatal(v, e1, e2, e4)
		}
		if e1 == api.OK {
			wantLists(t, g, v)
		}
		wantParts(t, g)
		keep := make([]bool, n)
		for w := range keep {
			keep[w] = (w*7+v)%3 != 0
		}
		wantInduced(t, g, keep)
	})
}
