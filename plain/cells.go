package plain

import (
	"math"
	"slices"

	"flyover/api"
)

// Three is the graph of DOC.md's examples, with its cells.
func Three() (api.Graph, api.Nest) {
	g := api.Graph{N: 3, Arcs: []api.Arc{{From: 0, To: 1, Weight: 5}, {From: 1, To: 2, Weight: 7}, {From: 0, To: 2, Weight: 20}}}
	return g, Cells([]int{2}, []int{0, 0, 1})
}

// Rounds has three levels, arcs in both directions, two between the same vertices, and one from a vertex to itself.
func Rounds() (api.Graph, api.Nest) {
	g := api.Graph{N: 6, Arcs: []api.Arc{
		{From: 0, To: 1, Weight: 2}, {From: 1, To: 0, Weight: 9}, {From: 1, To: 2, Weight: 1}, {From: 2, To: 3, Weight: 4}, {From: 3, To: 0, Weight: 3}, {From: 3, To: 4, Weight: 1},
		{From: 4, To: 1, Weight: 1}, {From: 4, To: 5, Weight: 6}, {From: 5, To: 0, Weight: 8}, {From: 0, To: 0, Weight: 7}, {From: 1, To: 2, Weight: 0},
	}}
	return g, Cells([]int{2, 4, 5}, []int{0, 0, 1, 1, 2, 3}, []int{0, 0, 0, 0, 1, 2}, []int{0, 0, 0, 0, 0, 1})
}

// Cells takes bounds, and of each level the cells.
func Cells(bounds []int, cells ...[]int) api.Nest { return api.Nest{Bounds: bounds, Cells: cells} }

// Count is 0, 1, 2 and so on.
func Count(n int) []int {
	l := make([]int, n)
	for i := range l {
		l[i] = i
	}
	return l
}

// WrongNumbers are no vertex, level, cell or id.
func WrongNumbers() []int {
	return []int{math.MinInt, -1, api.MaxArcs, api.MaxItems + 1, math.MaxInt}
}

// WrongEpochs are none.
func WrongEpochs() []int { return []int{math.MinInt, -1, api.MaxTicks + 1, math.MaxInt} }

// Tidy goes from the least vertex on: a label that was not seen ahead is the next one.
func Tidy(labels []int) []int {
	var seen, tidy []int
	for _, label := range labels {
		if !slices.Contains(seen, label) {
			seen = append(seen, label)
		}
		tidy = append(tidy, slices.Index(seen, label))
	}
	return tidy
}

func Many(n api.Nest, level int) int { return slices.Max(n.Cells[level-1]) + 1 }

// Boundary asks of each vertex of the cell all arcs.
func Boundary(g api.Graph, n api.Nest, level, cell int) []int {
	var l []int
	in := n.Cells[level-1]
	for v := range g.N {
		outside := func(a api.Arc) bool {
			return a.From == v && in[a.To] != cell || a.To == v && in[a.From] != cell
		}
		if in[v] == cell && slices.ContainsFunc(g.Arcs, outside) {
			l = append(l, v)
		}
	}
	return l
}

func Inner(g api.Graph, n api.Nest, level, cell int) []int {
	var l []int
	for id, a := range g.Arcs {
		if n.Cells[level-1][a.From] == cell && n.Cells[level-1][a.To] == cell {
			l = append(l, id)
		}
	}
	return l
}

func Between(g api.Graph, n api.Nest, level, cell int) []int {
	var l []int
	for _, id := range Inner(g, n, level, cell) {
		if a := g.Arcs[id]; n.Cells[level-2][a.From] != n.Cells[level-2][a.To] {
			l = append(l, id)
		}
	}
	return l
}

func Children(n api.Nest, level, cell int) []int {
	var l []int
	for child := range Many(n, level-1) {
		if n.Cells[level-1][slices.Index(n.Cells[level-2], child)] == cell {
			l = append(l, child)
		}
	}
	return l
}
