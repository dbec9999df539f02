package flow

import (
	"math"
	"slices"
	"testing"

	"flyover/api"
)

// Promises 6.1 to 6.3: the chapter's examples.
func TestExamples(t *testing.T) {
	w := triangle()
	if at, e := Check(w); at != 0 || e != api.OK {
		t.Errorf("Check: %d, %v", at, e)
	}
	value, flow, e := Max(w, 0, 2)
	if value != 3 || e != api.OK || !slices.Equal(flow, []uint32{2, 2, 1}) {
		t.Errorf("Max of 0, 2: %d, %v, %v", value, flow, e)
	}
	side, edges, value, e := Cut(w, 0, 2)
	if value != 3 || e != api.OK || !slices.Equal(side, []bool{true, true, false}) || !slices.Equal(edges, []int{1, 2}) {
		t.Errorf("Cut of 0, 2: %v, %v, %d, %v", side, edges, value, e)
	}
	value, flow, e = Max(w, 2, 0)
	if value != 0 || e != api.OK || !slices.Equal(flow, []uint32{0, 0, 0}) {
		t.Errorf("Max of 2, 0: %d, %v, %v", value, flow, e)
	}
	side, edges, value, e = Cut(w, 2, 0)
	if value != 0 || e != api.OK || !slices.Equal(side, []bool{false, false, true}) || len(edges) != 0 {
		t.Errorf("Cut of 2, 0: %v, %v, %d, %v", side, edges, value, e)
	}
	wantErrors(t, "the same", w, 1, 1, api.ErrShape)
}

func wantCheck(t *testing.T, name string, w api.Network, at int, want api.Errno) {
	t.Helper()
	if got, e := Check(w); got != at || e != want {
		t.Errorf("%s: Check: %d, %v, want %d, %v", name, got, e, at, want)
	}
}

// Promise 6.1: how many nodes and edges there may be, the number of nodes first.
func TestCheckSizes(t *testing.T) {
	many := make([]api.Edge, api.MaxItems+1)
	bad := slices.Clone(many)
	bad[3].To = api.MaxVertices
	for _, n := range []int{math.MinInt, -api.MaxVertices, -1, 0, api.MaxVertices + 1, api.MaxItems, math.MaxInt} {
		for _, edges := range [][]api.Edge{nil, many[:1], many, bad[:4], bad} {
			wantCheck(t, "no such number of nodes", api.Network{N: n, Edges: edges}, 0, api.ErrRange)
		}
	}
	for _, n := range []int{1, 2, api.MaxVertices - 1, api.MaxVertices} {
		wantCheck(t, "no edge", api.Network{N: n}, 0, api.OK)
		wantCheck(t, "as many edges as may be", api.Network{N: n, Edges: many[:api.MaxItems]}, 0, api.OK)
		wantCheck(t, "one more", api.Network{N: n, Edges: many}, 0, api.ErrLong)
		wantCheck(t, "one more, and a wrong one", api.Network{N: n, Edges: bad}, 0, api.ErrLong)
		wantCheck(t, "a wrong one", api.Network{N: n, Edges: bad[:api.MaxItems]}, 3, api.ErrFlow)
		wantCheck(t, "a wrong one in the spare room", api.Network{N: n, Edges: bad[:3]}, 0, api.OK)
	}
}

// Promise 6.1: the first edge of which an end is no node, at all places, whatever its capacity.
func TestCheckEnds(t *testing.T) {
	for _, n := range []int{1, 3, api.MaxVertices} {
		for _, bad := range noNodes(n) {
			for at := range 5 {
				for later := at; later < 5; later++ {
					for which := range 3 {
						w := api.Network{N: n, Edges: make([]api.Edge, 5)}
						wrong := api.Edge{From: n - 1, To: n - 1, Cap: uint32(which)}
						if which != 0 {
							wrong.From = bad
						}
						if which != 1 {
							wrong.To = bad
						}
						w.Edges[later], w.Edges[at] = api.Edge{From: -1, To: n}, wrong
						wantCheck(t, "an end that is none", w, at, api.ErrFlow)
						wantErrors(t, "an end that is none", w, 0, n-1, api.ErrFlow)
					}
				}
			}
		}
		for v := range min(n, 5) {
			wantCheck(t, "all ends", network(n, v, n-1-v, 0, n-1-v, v, math.MaxUint32, v, v, 1), 0, api.OK)
		}
	}
}

// Promise 6.1, R1, R5: both searches answer what Check refuses, ahead of nodes that are none or the same.
func TestWrongNetworks(t *testing.T) {
	many := make([]api.Edge, api.MaxItems+1)
	for name, x := range map[string]struct {
		w    api.Network
		want api.Errno
	}{
		"no node":             {api.Network{}, api.ErrRange},
		"N below 0":           {api.Network{N: math.MinInt}, api.ErrRange},
		"too many nodes":      {api.Network{N: api.MaxVertices + 1}, api.ErrRange},
		"the greatest N":      {api.Network{N: math.MaxInt}, api.ErrRange},
		"too many edges":      {api.Network{N: 2, Edges: many}, api.ErrLong},
		"an end too great":    {network(2, 0, 1, 1, 0, 2, 1), api.ErrFlow},
		"a beginning below 0": {network(2, -1, 1, 1), api.ErrFlow},
	} {
		for _, from := range []int{0, 1, 2, -1, math.MinInt, math.MaxInt} {
			for _, to := range []int{0, 1, 2, -1, math.MinInt, math.MaxInt} {
				wantErrors(t, name, x.w, from, to, x.want)
			}
		}
	}
}

// Promise 6.1, R1, R5: s or t is no node, ahead of that they are the same; else that they are.
func TestWrongNodes(t *testing.T) {
	for _, w := range []api.Network{triangle(), {N: 1}, network(1, 0, 0, 5), {N: api.MaxVertices}} {
		for _, bad := range noNodes(w.N) {
			wantErrors(t, "no s", w, bad, 0, api.ErrNone)
			wantErrors(t, "no t", w, 0, bad, api.ErrNone)
			wantErrors(t, "neither", w, bad, bad, api.ErrNone)
		}
		for v := range w.N {
			wantErrors(t, "the same", w, v, v, api.ErrShape)
		}
	}
}

// Promise 6.2: held against all flows.
func TestMaxOfAllFlows(t *testing.T) {
	hold := func(w api.Network) {
		ends(w.N, func(from, to int) {
			value, flow, e := Max(w, from, to)
			if want := plainMax(w, from, to); e != api.OK || value != want {
				t.Fatalf("Max of %d, %d of %v: %d, %v, want %d", from, to, w, value, e, want)
			}
			wantFlow(t, w, from, to, flow, value)
		})
	}
	hold(triangle())
	smallNetworks(2, 3, []uint32{0, 1, 2}, hold)
	smallNetworks(3, 3, []uint32{1, 3}, hold)
	draw := noise()
	for range 400 {
		n := 2 + draw(4)
		hold(drawn(draw, n, draw(8), 2))
	}
}

// Promise 6.3: held against all cuts. Of those of the least capacity just one has the fewest nodes.
func TestCutOfAllCuts(t *testing.T) {
	manyNetworks(func(w api.Network) {
		ends(w.N, func(from, to int) {
			side, edges, value, e := Cut(w, from, to)
			want, least, as := plainCut(w, from, to)
			if e != api.OK || value != least || !slices.Equal(side, want) || as != 1 {
				t.Fatalf("Cut of %d, %d of %v: %v, %d, %v, want %v, %d (%d of them)", from, to, w, side, value, e, want, least, as)
			}
			wantCutEdges(t, w, side, edges)
		})
	})
}

// Promise 6.4: the value of Max is the capacity of Cut; the flow fills each edge of the cut, and nothing flows back over it.
func TestFlowFillsCut(t *testing.T) {
	manyNetworks(func(w api.Network) {
		ends(w.N, func(from, to int) {
			value, flow, e := Max(w, from, to)
			side, edges, cut, e2 := Cut(w, from, to)
			if e != api.OK || e2 != api.OK || value != cut {
				t.Fatalf("of %d, %d of %v: %d, %v; %d, %v", from, to, w, value, e, cut, e2)
			}
			for _, id := range edges {
				if flow[id] != w.Edges[id].Cap {
					t.Errorf("of %d, %d of %v: the edge %d of the cut is not full: %v", from, to, w, id, flow)
				}
			}
			for id, edge := range w.Edges {
				if !side[edge.From] && side[edge.To] && flow[id] != 0 {
					t.Errorf("of %d, %d of %v: it flows back over the edge %d: %v", from, to, w, id, flow)
				}
			}
			wantBoth(t, w, from, to)
		})
	})
}

// Promises 6.2, 6.3: what is told by hand of a network with all that one may have.
func TestTangle(t *testing.T) {
	w := tangle()
	value, flow, e := Max(w, 0, 5)
	if value != 4 || e != api.OK {
		t.Errorf("Max of 0, 5: %d, %v", value, e)
	}
	wantFlow(t, w, 0, 5, flow, 4)
	side, edges, value, e := Cut(w, 0, 5)
	if value != 4 || e != api.OK || !slices.Equal(side, []bool{true, true, true, true, false, false, true, false, false}) || !slices.Equal(edges, []int{10, 11}) {
		t.Errorf("Cut of 0, 5: %v, %v, %d, %v", side, edges, value, e)
	}
	side, edges, value, e = Cut(w, 8, 0)
	if value != 0 || e != api.OK || !side[8] || slices.Contains(side[:8], true) || len(edges) != 0 {
		t.Errorf("Cut of 8, 0: %v, %v, %d, %v", side, edges, value, e)
	}
	side, edges, value, e = Cut(w, 7, 5)
	if value != 4 || e != api.OK || !side[7] || slices.Contains(side[:7], true) || !slices.Equal(edges, []int{19}) {
		t.Errorf("Cut of 7, 5: %v, %v, %d, %v", side, edges, value, e)
	}
}

// Promise 6.2: a flow over the first way that is found is taken back in part.
func TestTakenBack(t *testing.T) {
	for _, room := range []int{1, 2, 5, 1 << 20, math.MaxUint32} {
		w := network(4, 0, 1, room, 0, 2, room, 1, 2, room, 1, 3, room, 2, 3, room)
		for first := range w.Edges {
			turned := api.Network{N: 4, Edges: append(slices.Clone(w.Edges[first:]), w.Edges[:first]...)}
			value, flow, e := Max(turned, 0, 3)
			if value != 2*uint64(room) || e != api.OK {
				t.Errorf("Max of capacities %d: %d, %v", room, value, e)
			}
			wantFlow(t, turned, 0, 3, flow, value)
		}
	}
	// Over the shortest way first; the other two ways both need that it is given up.
	w := network(8, 0, 1, 1, 1, 2, 1, 2, 7, 1, 0, 3, 1, 3, 4, 1, 4, 2, 1, 1, 5, 1, 5, 6, 1, 6, 7, 1)
	if value, _, e := Max(w, 0, 7); value != 2 || e != api.OK {
		t.Errorf("Max of two long ways: %d, %v", value, e)
	}
	wantBoth(t, w, 0, 7)
}

// Promise 6.3: where several cuts are as good, that one nearest to s; edges without a capacity belong to it too, edges back and from a node to itself do not.
func TestCutFewest(t *testing.T) {
	for n := 2; n < 40; n++ {
		w := street(n, 3)
		side, edges, value, e := Cut(w, 0, n-1)
		if e != api.OK || value != 3 || !side[0] || slices.Contains(side[1:], true) || !slices.Equal(edges, []int{0}) {
			t.Errorf("Cut of a street of %d: %v, %v, %d, %v", n, side, edges, value, e)
		}
		narrow := n / 2
		if narrow == 0 || narrow >= n-1 {
			continue
		}
		w.Edges[narrow].Cap = 2
		side, edges, value, e = Cut(w, 0, n-1)
		if e != api.OK || value != 2 || slices.Index(side, false) != narrow+1 || slices.Contains(side[narrow+1:], true) || !slices.Equal(edges, []int{narrow}) {
			t.Errorf("Cut of a street of %d, narrow at %d: %v, %v, %d, %v", n, narrow, side, edges, value, e)
		}
	}
	w := network(4, 0, 1, 5, 1, 2, 0, 0, 0, 4, 2, 1, 6, 1, 2, 2, 2, 2, 1, 0, 3, 0, 3, 0, 9, 2, 3, 0, 1, 2, 0)
	side, edges, value, e := Cut(w, 0, 2)
	if e != api.OK || value != 2 || !slices.Equal(side, []bool{true, true, false, false}) || !slices.Equal(edges, []int{1, 4, 6, 9}) {
		t.Errorf("Cut with edges that carry nothing: %v, %v, %d, %v", side, edges, value, e)
	}
	side, edges, value, e = Cut(network(2, 0, 1, 0), 0, 1)
	if e != api.OK || value != 0 || !slices.Equal(side, []bool{true, false}) || !slices.Equal(edges, []int{0}) {
		t.Errorf("Cut with one edge that carries nothing: %v, %v, %d, %v", side, edges, value, e)
	}
}

// Promises 6.2, 6.3: capacities of all sizes side by side and one behind the other.
func TestCapacities(t *testing.T) {
	rooms := []uint32{0, 1, 2, 3, 4, 7, 8, 9, 1 << 16, 1<<31 - 1, 1 << 31, 1<<31 + 1, math.MaxUint32 - 1, math.MaxUint32}
	for _, a := range rooms {
		for _, b := range rooms {
			for _, c := range rooms {
				w := api.Network{N: 3, Edges: []api.Edge{{From: 0, To: 1, Cap: a}, {From: 1, To: 2, Cap: b}, {From: 0, To: 2, Cap: c}}}
				want := uint64(min(a, b)) + uint64(c)
				if value, _, e := Max(w, 0, 2); value != want || e != api.OK {
					t.Errorf("Max of %d, %d, %d: %d, %v, want %d", a, b, c, value, e, want)
				}
				wantBoth(t, w, 0, 2)
				w = api.Network{N: 3, Edges: []api.Edge{{From: 0, To: 1, Cap: a}, {From: 0, To: 1, Cap: b}, {From: 1, To: 2, Cap: c}, {From: 1, To: 2, Cap: c}}}
				want = min(uint64(a)+uint64(b), 2*uint64(c))
				if value, _, e := Max(w, 0, 2); value != want || e != api.OK {
					t.Errorf("Max of %d and %d, twice %d: %d, %v, want %d", a, b, c, value, e, want)
				}
			}
		}
	}
}

// Promises 6.2, 6.3, P1: the greatest networks and the greatest values.
func TestGreatest(t *testing.T) {
	const last, widest = api.MaxVertices - 1, math.MaxUint32
	draw := noise()
	side := api.Network{N: 2, Edges: make([]api.Edge, api.MaxItems)}
	for id := range side.Edges {
		side.Edges[id] = api.Edge{From: 0, To: 1, Cap: widest}
	}
	if value, _, e := Max(side, 0, 1); value != api.MaxItems*widest || e != api.OK {
		t.Errorf("Max of the widest: %d, %v", value, e)
	}
	wantBoth(t, side, 0, 1)
	wantBoth(t, side, 1, 0)
	for _, w := range []api.Network{
		street(api.MaxVertices, widest), town(draw, 32), {N: api.MaxVertices},
		{N: api.MaxVertices, Edges: make([]api.Edge, api.MaxItems)},
		drawn(draw, api.MaxVertices, api.MaxItems, 1), drawn(draw, api.MaxVertices, api.MaxItems, 1<<30),
		drawn(draw, 130, api.MaxItems, 9), drawn(draw, api.MaxVertices, 2*api.MaxVertices, 7),
	} {
		wantBoth(t, w, 0, last%w.N)
		wantBoth(t, w, last%w.N, 0)
		wantBoth(t, w, w.N/2, w.N/3)
	}
}

// Promise 6.2, P1: networks that make the searches go many rounds of many ways. By the shortest ways alone the greatest one would take some seconds.
func TestLongSearches(t *testing.T) {
	for _, x := range [][2]int{{1, 1}, {2, 3}, {5, 8}, {20, 40}, {60, 220}, {120, 190}} {
		w := long(x[0], x[1])
		if value, _, e := Max(w, 0, 1); value != uint64(x[0]*x[0]*x[1]) || e != api.OK {
			t.Errorf("Max of %d rungs, %d rounds: %d, %v", x[0], x[1], value, e)
		}
		wantBoth(t, w, 0, 1)
	}
}

// Promises 6.2 to 6.4: drawn networks of some more nodes, from all to all.
func TestDrawn(t *testing.T) {
	draw := noise()
	for n := 10; n < 40; n += 3 {
		for _, most := range []int{1, 6, 1 << 23} {
			w := drawn(draw, n, n+draw(4*n), most)
			ends(n, func(from, to int) { wantBoth(t, w, from, to) })
		}
	}
}

// R4: what is handed in stays as it was, spare room too, and answers are new memory.
func TestMemory(t *testing.T) {
	bad := api.Edge{From: -7, To: -7, Cap: 7}
	room := append(tangle().Edges, bad, bad)
	w := api.Network{N: 9, Edges: room[:len(room)-2]}
	before := slices.Clone(room)
	var flows [][]uint32
	var sides [][]bool
	var cuts [][]int
	for range 3 {
		_, flow, e := Max(w, 0, 5)
		side, edges, _, e2 := Cut(w, 0, 5)
		if e != api.OK || e2 != api.OK {
			t.Fatal(e, e2)
		}
		flows, sides, cuts = append(flows, flow), append(sides, side), append(cuts, edges)
	}
	if at, e := Check(w); at != 0 || e != api.OK {
		t.Error(at, e)
	}
	if !slices.Equal(room, before) {
		t.Error("what was handed in is changed")
	}
	for i := range flows {
		for j := range flows {
			if i != j && (overlap(flows[i], flows[j]) || overlap(sides[i], sides[j]) || overlap(cuts[i], cuts[j])) {
				t.Error("two answers share memory")
			}
			if overlap(flows[i], sides[j]) || overlap(flows[i], cuts[j]) || overlap(sides[i], cuts[j]) {
				t.Error("two lists share memory")
			}
		}
		if overlap(flows[i], room) || overlap(sides[i], room) || overlap(cuts[i], room) {
			t.Error("an answer shares memory with what was handed in")
		}
	}
}

// R3: no edges may be nil or empty.
func TestNoEdges(t *testing.T) {
	for _, edges := range [][]api.Edge{nil, {}, make([]api.Edge, 0, 5)} {
		w := api.Network{N: 2, Edges: edges}
		wantCheck(t, "no edges", w, 0, api.OK)
		if value, flow, e := Max(w, 1, 0); value != 0 || len(flow) != 0 || e != api.OK {
			t.Errorf("Max without edges: %d, %v, %v", value, flow, e)
		}
		if side, cut, value, e := Cut(w, 1, 0); !slices.Equal(side, []bool{false, true}) || len(cut) != 0 || value != 0 || e != api.OK {
			t.Errorf("Cut without edges: %v, %v, %d, %v", side, cut, value, e)
		}
	}
}

// R7: the same call tells the same, whatever was called ahead, and whatever room lies behind the edges.
func TestTellsTheSame(t *testing.T) {
	draw := noise()
	for range 30 {
		n := 2 + draw(20)
		w := drawn(draw, n, 4*n, 5)
		first, flow, e := Max(w, 0, n-1)
		side, edges, _, e2 := Cut(w, 0, n-1)
		for range 3 {
			if _, _, e := Max(drawn(draw, n, n, 3), n-1, 0); e != api.OK {
				t.Fatal(e)
			}
			again := api.Network{N: n, Edges: slices.Grow(slices.Clone(w.Edges), 1+draw(9))}
			value, flow2, e3 := Max(again, 0, n-1)
			side2, edges2, cut, e4 := Cut(again, 0, n-1)
			if value != first || cut != first || !slices.Equal(flow, flow2) || !slices.Equal(side, side2) || !slices.Equal(edges, edges2) || e != e3 || e2 != e4 {
				t.Errorf("of %v: %d, %v, %v, %v, then %d, %v, %v, %v", w, first, flow, side, edges, value, flow2, side2, edges2)
			}
		}
	}
}

// Promises 6.1 to 6.4, P1: networks made of any bytes, right ones and wrong ones.
func FuzzFlow(f *testing.F) {
	f.Add([]byte{2, 0, 2, 0, 1, 3, 1, 2, 2, 0, 2, 1})
	f.Add([]byte{4, 3, 1, 3, 4, 0, 4, 3, 0, 4, 1, 255, 1, 1, 1})
	f.Add([]byte{8, 0, 7, 0, 1, 1, 1, 2, 1, 2, 7, 1, 0, 3, 1, 3, 4, 1, 4, 2, 1, 1, 5, 1, 5, 6, 1, 6, 7, 1})
	f.Fuzz(func(t *testing.T, b []byte) {
		if len(b) < 3 {
			return
		}
		w := api.Network{N: int(b[0])}
		for i := 3; i+2 < len(b); i += 3 {
			room := uint32(b[i+2])
			if room > 200 {
				room = 1<<(room%32) - room%3
			}
			w.Edges = append(w.Edges, api.Edge{From: int(int8(b[i])), To: int(int8(b[i+1])), Cap: room})
		}
		from, to := int(int8(b[1])), int(int8(b[2]))
		at, e := Check(w)
		switch {
		case e == api.ErrFlow:
			if edge := w.Edges[at]; min(edge.From, edge.To) >= 0 && max(edge.From, edge.To) < w.N {
				t.Errorf("the edge %d of %v is right", at, w)
			}
			wantErrors(t, "an edge", w, from, to, e)
		case e != api.OK:
			wantErrors(t, "sizes", w, from, to, e)
		case min(from, to) < 0 || max(from, to) >= w.N:
			wantErrors(t, "no node", w, from, to, api.ErrNone)
		case from == to:
			wantErrors(t, "the same", w, from, to, api.ErrShape)
		default:
			wantBoth(t, w, from, to)
		}
	})
}
