package plain

import (
	"math"
	"slices"

	"flyover/api"
)

// Noise answers a function that draws numbers below a bound, the same ones each time.
func Noise() func(bound int) int {
	state := uint32(1)
	return func(bound int) int {
		state = state*1664525 + 1013904223
		return int(state>>8) % bound
	}
}

// Graph has weights from 0 to most.
func Graph(draw func(int) int, n, many, most int) api.Graph {
	g := api.Graph{N: n}
	for range many {
		g.Arcs = append(g.Arcs, api.Arc{From: draw(n), To: draw(n), Weight: uint32(draw(most + 1))})
	}
	return g
}

// Reweighed is g with other weights, some of them as great as weights may be.
func Reweighed(draw func(int) int, g api.Graph) api.Graph {
	h := api.Graph{N: g.N, Arcs: slices.Clone(g.Arcs)}
	for id := range h.Arcs {
		h.Arcs[id].Weight = []uint32{0, math.MaxUint32, uint32(draw(9)), uint32(draw(1 << 20))}[draw(4)]
	}
	return h
}

// Dist is often one of those at which something might turn over.
func Dist(draw func(int) int) api.Dist {
	return []api.Dist{0, 1, api.Inf, api.Inf - 1, api.Inf - 6, 1 << 63, api.Dist(draw(9)), api.Dist(draw(1 << 20)), api.Dist(draw(1<<20)) << 40}[draw(9)]
}

// Nest is right for n vertices: the cells of a level are put together as they are drawn, neighbours or not.
func Nest(draw func(int) int, n, levels int) api.Nest {
	labels := Count(n)
	var x api.Nest
	bound := 0
	for range levels {
		many := slices.Max(labels) + 1
		groups, above := make([]int, many), make([]int, n)
		kinds := 1 + draw(many)
		for i := range groups {
			groups[i] = draw(kinds)
		}
		for v, label := range labels {
			above[v] = groups[label]
		}
		labels = Tidy(above)
		bound = max(bound+1, greatestSize(labels))
		x.Bounds, x.Cells = append(x.Bounds, bound), append(x.Cells, labels)
	}
	return x
}

func greatestSize(labels []int) int {
	l := make([]int, len(labels))
	for _, label := range labels {
		l[label]++
	}
	return slices.Max(l)
}

// Graphs are all of n vertices, with each arc that may be, or without it, and drawn weights.
func Graphs(draw func(int) int, n int) []api.Graph {
	var all []api.Graph
	for set := range 1 << (n * n) {
		g := api.Graph{N: n}
		for at := range n * n {
			if set>>at&1 == 1 {
				g.Arcs = append(g.Arcs, api.Arc{From: at / n, To: at % n, Weight: uint32(draw(6))})
			}
		}
		all = append(all, g)
	}
	return all
}

// Nests are all right ones of one and of two levels of up to three vertices.
func Nests(n int) []api.Nest {
	all := [][][]int{nil, {{0}}, {{0, 0}, {0, 1}}, {{0, 0, 0}, {0, 0, 1}, {0, 1, 0}, {0, 1, 1}, {0, 1, 2}}}[n]
	var nests []api.Nest
	for _, low := range all {
		nests = append(nests, Cells([]int{n}, low))
		for _, high := range all {
			if isWithin(low, high) {
				nests = append(nests, Cells([]int{n, n + 1}, low, high))
			}
		}
	}
	return nests
}

// isWithin answers whether any two vertices of one cell are of one cell above.
func isWithin(low, high []int) bool {
	for v := range low {
		for w := range low {
			if low[v] == low[w] && high[v] != high[w] {
				return false
			}
		}
	}
	return true
}

// Read makes a graph and a nest of bytes that are made up: of each arc its ends and its weight, and of each level its labels, tidied; cells may still be no nest.
func Read(n int, ends, labels []byte) (api.Graph, api.Nest) {
	n %= 24
	g := api.Graph{N: n}
	for i := 0; i+2 < len(ends) && len(g.Arcs) < 100; i += 3 {
		g.Arcs = append(g.Arcs, api.Arc{From: int(ends[i]) % max(n, 1), To: int(ends[i+1]) % max(n, 1), Weight: uint32(ends[i+2])})
	}
	var x api.Nest
	for at := n; n > 0 && at <= len(labels) && at <= api.MaxLevels*n; at += n {
		level := make([]int, n)
		for v := range level {
			level[v] = int(labels[at-n+v])
		}
		x.Bounds, x.Cells = append(x.Bounds, n+len(x.Bounds)), append(x.Cells, Tidy(level))
	}
	return g, x
}
