package flow

import (
	"math"
	"slices"
	"testing"
	"unsafe"

	"flyover/api"
)

// triangle is the network of the chapter's examples.
func triangle() api.Network {
	return network(3, 0, 1, 3, 1, 2, 2, 0, 2, 1)
}

// network takes for each edge where it begins, where it ends, and its capacity.
func network(n int, numbers ...int) api.Network {
	w := api.Network{N: n}
	for i := 0; i < len(numbers); i += 3 {
		w.Edges = append(w.Edges, api.Edge{From: numbers[i], To: numbers[i+1], Cap: uint32(numbers[i+2])})
	}
	return w
}

// tangle has edges from a node to itself, several between the same two, both ways round, without a capacity, into s, out of t, and nodes without an edge.
func tangle() api.Network {
	return network(9,
		0, 0, 7, 0, 1, 4, 1, 0, 9, 0, 1, 0, 0, 1, 2, 1, 2, 3, 2, 1, 3, 1, 3, 5, 3, 2, 1, 2, 2, 1,
		2, 4, 3, 3, 4, 1, 4, 5, 9, 5, 4, 9, 5, 3, 2, 4, 0, 8, 0, 6, 5, 6, 0, 5, 5, 5, 3, 7, 5, 4)
}

// noise answers a function that draws numbers below a bound, the same ones each time.
func noise() func(bound int) int {
	state := uint32(1)
	return func(bound int) int {
		state = state*1664525 + 1013904223
		return int(state>>8) % bound
	}
}

// drawn answers a network whose edges are drawn, with capacities from 0 to most.
func drawn(draw func(int) int, n, edges, most int) api.Network {
	w := api.Network{N: n}
	for range edges {
		w.Edges = append(w.Edges, api.Edge{From: draw(n), To: draw(n), Cap: uint32(draw(most + 1))})
	}
	return w
}

// street has an edge from each node to the next one.
func street(n int, room uint32) api.Network {
	w := api.Network{N: n}
	for v := range n - 1 {
		w.Edges = append(w.Edges, api.Edge{From: v, To: v + 1, Cap: room})
	}
	return w
}

// town is a square of streets in both directions, with drawn capacities.
func town(draw func(int) int, side int) api.Network {
	w := api.Network{N: side * side}
	both := func(a, b int) {
		room := uint32(draw(5))
		w.Edges = append(w.Edges, api.Edge{From: a, To: b, Cap: room}, api.Edge{From: b, To: a, Cap: room})
	}
	for v := range w.N {
		if (v+1)%side != 0 {
			both(v, v+1)
		}
		if v+side < w.N {
			both(v, v+side)
		}
	}
	return w
}

// long is hard to fill over the shortest ways first: from round to round the ways become longer, each round fills all rungs between two ladders' sides, and the next one empties them. It flows from the node 0 to the node 1.
func long(rungs, rounds int) api.Network {
	const apart = 2 // steps from one round's turning to the next one's: else a way past the rungs would be as short
	hubs, street := 2, 6
	left := street + 2*apart*rounds
	right := left + rungs
	w := api.Network{N: right + rungs}
	edge := func(from, to, room int) {
		w.Edges = append(w.Edges, api.Edge{From: from, To: to, Cap: uint32(room)})
	}
	for i := range rungs {
		edge(hubs, left+i, math.MaxUint32)
		edge(hubs+1, right+i, math.MaxUint32)
		edge(left+i, hubs+2, math.MaxUint32)
		edge(right+i, hubs+3, math.MaxUint32)
		for j := range rungs {
			edge(left+i, right+j, 1)
		}
	}
	out, in := 0, 1
	for round := range rounds {
		way := round % 2
		edge(out, hubs+way, rungs*rungs)
		edge(hubs+3-way, in, rungs*rungs)
		for range apart {
			edge(out, street, math.MaxUint32)
			edge(street+1, in, math.MaxUint32)
			out, in, street = street, street+1, street+2
		}
	}
	return w
}

// smallNetworks goes through all networks of at most most edges with these capacities.
func smallNetworks(n, most int, rooms []uint32, do func(w api.Network)) {
	var grow func(edges []api.Edge)
	grow = func(edges []api.Edge) {
		do(api.Network{N: n, Edges: edges})
		if len(edges) == most {
			return
		}
		for i := range n * n {
			for _, room := range rooms {
				grow(append(edges[:len(edges):len(edges)], api.Edge{From: i / n, To: i % n, Cap: room}))
			}
		}
	}
	grow(nil)
}

// manyNetworks goes through all small networks, and through drawn ones of few nodes.
func manyNetworks(do func(w api.Network)) {
	do(triangle())
	do(tangle())
	do(street(7, 4))
	smallNetworks(2, 4, []uint32{0, 1}, do)
	smallNetworks(3, 3, []uint32{0, 1, 2}, do)
	smallNetworks(4, 3, []uint32{1}, do)
	draw := noise()
	for n := 2; n < 10; n++ {
		for _, most := range []int{0, 1, 3, 9, 1 << 20} {
			for range 12 {
				do(drawn(draw, n, draw(4*n+1), most))
			}
		}
	}
}

// ends goes through all pairs of different nodes.
func ends(n int, do func(s, t int)) {
	for s := range n {
		for t := range n {
			if s != t {
				do(s, t)
			}
		}
	}
}

// capacity is that of a cut, as the chapter says it.
func capacity(w api.Network, side []bool) uint64 {
	total := uint64(0)
	for _, edge := range w.Edges {
		if side[edge.From] && !side[edge.To] {
			total += uint64(edge.Cap)
		}
	}
	return total
}

// plainCut is a second reading of the chapter: it goes through all cuts. It also answers how many of those of the least capacity have the fewest nodes.
func plainCut(w api.Network, s, t int) (best []bool, value uint64, as int) {
	fewest := 0
	for set := range 1 << w.N {
		if set>>s&1 == 0 || set>>t&1 == 1 {
			continue
		}
		side, nodes := make([]bool, w.N), 0
		for v := range side {
			side[v] = set>>v&1 == 1
			nodes += set >> v & 1
		}
		c := capacity(w, side)
		if best == nil || c < value || (c == value && nodes < fewest) {
			best, value, fewest, as = side, c, nodes, 0
		}
		if c == value && nodes == fewest {
			as++
		}
	}
	return best, value, as
}

// plainMax is a second reading of the chapter: it goes through all flows.
func plainMax(w api.Network, s, t int) uint64 {
	greatest := int64(0)
	flow := make([]uint32, len(w.Edges))
	for {
		if gains, right := gained(w, s, t, flow); right {
			greatest = max(greatest, -gains[s])
		}
		id := 0
		for ; id < len(flow); id++ {
			if flow[id]++; flow[id] <= w.Edges[id].Cap {
				break
			}
			flow[id] = 0
		}
		if id == len(flow) {
			return uint64(greatest)
		}
	}
}

// gained answers of each node how much more flows into it than out, and whether the numbers are a flow.
func gained(w api.Network, s, t int, flow []uint32) (gains []int64, right bool) {
	gains, right = make([]int64, w.N), len(flow) == len(w.Edges)
	for id, edge := range w.Edges {
		if !right || flow[id] > edge.Cap {
			return nil, false
		}
		gains[edge.To] += int64(flow[id])
		gains[edge.From] -= int64(flow[id])
	}
	for v, gain := range gains {
		right = right && (gain == 0 || v == s || v == t)
	}
	return gains, right
}

// wantFlow asks that the numbers are a flow of this value.
func wantFlow(t *testing.T, w api.Network, from, to int, flow []uint32, value uint64) {
	t.Helper()
	gains, right := gained(w, from, to, flow)
	if !right || gains[to] != int64(value) || gains[from] != -int64(value) {
		t.Errorf("Max of %d, %d: %d, by %v, which gains %v", from, to, value, flow, gains)
	}
}

// wantFewest asks that all nodes of the cut can be reached where the flow leaves room: then each cut of its capacity has them.
func wantFewest(t *testing.T, w api.Network, from int, side []bool, flow []uint32) {
	t.Helper()
	reached := make([]bool, w.N)
	reached[from] = true
	for again := true; again; {
		again = false
		for id, edge := range w.Edges {
			if reached[edge.From] && !reached[edge.To] && flow[id] < edge.Cap {
				reached[edge.To], again = true, true
			}
			if reached[edge.To] && !reached[edge.From] && flow[id] > 0 {
				reached[edge.From], again = true, true
			}
		}
	}
	if !slices.Equal(side, reached) {
		t.Errorf("Cut from %d: %v, want %v", from, side, reached)
	}
}

// wantCutEdges asks for just the edges out of the cut, in their order.
func wantCutEdges(t *testing.T, w api.Network, side []bool, edges []int) {
	t.Helper()
	var want []int
	for id, edge := range w.Edges {
		if side[edge.From] && !side[edge.To] {
			want = append(want, id)
		}
	}
	if !slices.Equal(edges, want) {
		t.Errorf("Cut %v: the edges %v, want %v", side, edges, want)
	}
}

// wantBoth asks that flow and cut prove one another, at networks of any size.
func wantBoth(t *testing.T, w api.Network, from, to int) {
	t.Helper()
	value, flow, e := Max(w, from, to)
	side, edges, cut, e2 := Cut(w, from, to)
	if e != api.OK || e2 != api.OK || len(side) != w.N || !side[from] || side[to] {
		t.Fatalf("of %d, %d: %v, %v, %v", from, to, e, side, e2)
	}
	wantFlow(t, w, from, to, flow, value)
	wantCutEdges(t, w, side, edges)
	wantFewest(t, w, from, side, flow)
	if c := capacity(w, side); c != value || c != cut {
		t.Errorf("of %d, %d: a flow of %d, a cut of %d that tells %d", from, to, value, c, cut)
	}
	if t.Failed() {
		t.Fatalf("from %d to %d of %d nodes, %d edges: %v", from, to, w.N, len(w.Edges), w.Edges[:min(50, len(w.Edges))])
	}
}

// wantErrors asks for an error of both searches, and that nothing is told beside it (R5).
func wantErrors(t *testing.T, name string, w api.Network, from, to int, want api.Errno) {
	t.Helper()
	if value, flow, e := Max(w, from, to); e != want || value != 0 || len(flow) != 0 {
		t.Errorf("%s: Max of %d, %d: %d, %v, %v, want %v", name, from, to, value, flow, e, want)
	}
	if side, edges, value, e := Cut(w, from, to); e != want || len(side) != 0 || len(edges) != 0 || value != 0 {
		t.Errorf("%s: Cut of %d, %d: %v, %v, %d, %v, want %v", name, from, to, side, edges, value, e, want)
	}
}

// noNodes are none of a network with n nodes.
func noNodes(n int) []int {
	return []int{math.MinInt, -n, -1, n, n + 1, api.MaxItems, math.MaxInt}
}

// overlap says whether two lists share memory, their spare room too.
func overlap[A, B any](a []A, b []B) bool {
	if cap(a) == 0 || cap(b) == 0 {
		return false
	}
	var x A
	var y B
	from, to := uintptr(unsafe.Pointer(unsafe.SliceData(a))), uintptr(unsafe.Pointer(unsafe.SliceData(b)))
	return from < to+uintptr(cap(b))*unsafe.Sizeof(y) && to < from+uintptr(cap(a))*unsafe.Sizeof(x)
}
