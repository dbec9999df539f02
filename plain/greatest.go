package plain

import (
	"math"
	"slices"

	"flyover/api"
)

// Great is as great as a graph may be: a grid, in which each vertex has arcs to and from those beside it, and some that stand twice.
func Great(draw func(int) int) api.Graph {
	const side = 32
	g := api.Graph{N: side * side}
	for v := range g.N {
		for _, to := range []int{v + 1, v + side} {
			if to < g.N && (to != v+1 || to%side > 0) {
				g.Arcs = append(g.Arcs, api.Arc{From: v, To: to, Weight: uint32(draw(1000))}, api.Arc{From: to, To: v, Weight: uint32(draw(1000))})
			}
		}
	}
	for len(g.Arcs) < api.MaxArcs {
		g.Arcs = append(g.Arcs, g.Arcs[draw(len(g.Arcs))])
		g.Arcs[len(g.Arcs)-1].Weight = math.MaxUint32
	}
	return g
}

// Star has arcs from the vertex 0 to all others, and back.
func Star(draw func(int) int) api.Graph {
	g := api.Graph{N: api.MaxVertices}
	for v := 1; v < g.N; v++ {
		g.Arcs = append(g.Arcs, api.Arc{From: v, To: 0, Weight: uint32(v)}, api.Arc{From: 0, To: v, Weight: uint32(draw(9))})
	}
	return g
}

// Long is a way there and back with the greatest weights, so that a distance is as great as it may be.
func Long() api.Graph {
	g := api.Graph{N: api.MaxVertices}
	for v := range g.N - 1 {
		g.Arcs = append(g.Arcs, api.Arc{From: v, To: v + 1, Weight: math.MaxUint32}, api.Arc{From: v + 1, To: v, Weight: math.MaxUint32})
	}
	return g
}

// Shapes are the greatest graphs of other shapes than Great's.
func Shapes(draw func(int) int) []api.Graph {
	return []api.Graph{Star(draw), Long(), {N: api.MaxVertices}, {N: api.MaxVertices, Arcs: make([]api.Arc, api.MaxArcs)}, {N: 1, Arcs: make([]api.Arc, api.MaxArcs)}, Graph(draw, 64, api.MaxArcs, math.MaxInt32)}
}

// Lopsided has one vertex alone and all others in one cell, whose matrix may have more members than api.MaxItems, and above it all vertices in one cell.
func Lopsided(n int) api.Nest {
	low := slices.Repeat([]int{1}, n)
	low[0] = 0
	return Cells([]int{api.MaxVertices - 1, api.MaxVertices}, low, make([]int, n))
}

// Halved has each vertex alone, above that two halves, and above these all vertices in one cell.
func Halved(n int) api.Nest {
	halves := make([]int, n)
	for v := range halves {
		halves[v] = 2 * v / n
	}
	return Cells([]int{1, api.MaxVertices / 2, api.MaxVertices}, Count(n), halves, make([]int, n))
}
