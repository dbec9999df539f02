package overlay

import (
	"slices"

	"flyover/api"
	"flyover/cell"
	"flyover/clique"
)

// fate is what became of a cell.
type fate int

const (
	kept         fate = iota // its matrix is the one it had
	fromArcs                 // it is made of the arcs inside
	fromChildren             // it is made of those below and of the arcs between
)

// made is the fate of the cells of a level whose matrices are not kept.
func made(level int) fate {
	if level == 1 {
		return fromArcs
	}
	return fromChildren
}

// allMade are the fates of all cells, level by level, if no matrix is kept.
func allMade(n api.Nest) [][]fate {
	fates := make([][]fate, len(n.Cells))
	for at, labels := range n.Cells {
		fates[at] = slices.Repeat([]fate{made(at + 1)}, manyCells(labels))
	}
	return fates
}

// someMade are the fates of all cells, if those that are stale are made anew.
func someMade(n api.Nest, stale [][]int) [][]fate {
	fates := make([][]fate, len(n.Cells))
	for at, labels := range n.Cells {
		fates[at] = make([]fate, manyCells(labels))
		for _, cell := range stale[at] {
			fates[at][cell] = made(at + 1)
		}
	}
	return fates
}

// work is what matrices of an epoch are made of.
type work struct {
	g     api.Graph
	n     api.Nest
	epoch int
}

// matrices goes from the level 1 on: what is made of matrices below is made of them as they are then. Where nothing is kept, old may be nil.
func (w work) matrices(old [][]api.Matrix, fates [][]fate) ([][]api.Matrix, api.Errno) {
	o := make([][]api.Matrix, len(fates))
	for at := range fates {
		var children [][]int
		var below []api.Matrix
		if at > 0 {
			children, below = families(w.n.Cells[at], w.n.Cells[at-1]), o[at-1]
		}
		for cell, fate := range fates[at] {
			var m api.Matrix
			var e api.Errno
			switch fate {
			case kept:
				m = old[at][cell]
				m.D = slices.Clone(m.D)
			case fromArcs:
				m, e = w.leaf(cell)
			case fromChildren:
				m, e = w.up(at+1, cell, chosen(below, children[cell]))
			}
			if e != api.OK {
				return nil, e
			}
			o[at] = append(o[at], m)
		}
	}
	return o, api.OK
}

func (w work) leaf(number int) (api.Matrix, api.Errno) {
	arcs, e := cell.Inner(w.g, w.n, 1, number)
	if e != api.OK {
		return api.Matrix{}, e
	}
	weights, e := clique.Weights(w.g, arcs)
	if e != api.OK {
		return api.Matrix{}, e
	}
	return clique.Leaf(w.g, w.n, number, w.epoch, weights)
}

func (w work) up(level, number int, children []api.Matrix) (api.Matrix, api.Errno) {
	arcs, e := cell.Between(w.g, w.n, level, number)
	if e != api.OK {
		return api.Matrix{}, e
	}
	weights, e := clique.Weights(w.g, arcs)
	if e != api.OK {
		return api.Matrix{}, e
	}
	return clique.Up(w.g, w.n, level, number, w.epoch, weights, children)
}

func chosen(list []api.Matrix, cells []int) []api.Matrix {
	some := make([]api.Matrix, len(cells))
	for at, cell := range cells {
		some[at] = list[cell]
	}
	return some
}
