package overlay

import (
	"slices"

	"flyover/api"
	"flyover/cell"
)

// manyCells takes labels that are tidy.
func manyCells(labels []int) int { return slices.Max(labels) + 1 }

// families are of each cell its children, rising: tidy labels are met in their order, each one first at a vertex whose label above is met there first, or was ahead.
func families(labels, below []int) [][]int {
	children := make([][]int, manyCells(labels))
	met := 0
	for v, child := range below {
		if child == met {
			children[labels[v]] = append(children[labels[v]], child)
			met++
		}
	}
	return children
}

// boundarySizes are of each cell of a level how many boundary vertices it has. They are counted for all cells at once, since layer 13's Check goes over all arcs for each matrix that it is asked about.
func boundarySizes(g api.Graph, n api.Nest, level int) ([]int, api.Errno) {
	arcs, e := cell.Outer(g, n, level)
	if e != api.OK {
		return nil, e
	}
	labels := n.Cells[level-1]
	sizes, counted := make([]int, manyCells(labels)), make([]bool, g.N)
	for _, id := range arcs {
		for _, v := range [2]int{g.Arcs[id].From, g.Arcs[id].To} {
			if !counted[v] {
				counted[v] = true
				sizes[labels[v]]++
			}
		}
	}
	return sizes, api.OK
}

// areOf answers whether each matrix may be that of the cell in whose place it stands.
func areOf(level int, list []api.Matrix, sizes []int) bool {
	if len(list) != len(sizes) {
		return false
	}
	for cell, m := range list {
		if m.Level != level || m.Cell != cell || !isEpoch(m.Epoch) || len(m.D) != sizes[cell]*sizes[cell] {
			return false
		}
	}
	return true
}
