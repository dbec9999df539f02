package clique

import (
	"slices"

	"flyover/api"
	"flyover/cell"
	"flyover/near"
)

// place is a cell of a level, and what it takes to ask layer 12 about it.
type place struct {
	g           api.Graph
	n           api.Nest
	level, cell int
}

func (p place) boundary() ([]int, api.Errno) { return cell.Boundary(p.g, p.n, p.level, p.cell) }

func (p place) inner() ([]int, api.Errno) { return cell.Inner(p.g, p.n, p.level, p.cell) }

func (p place) between() ([]int, api.Errno) { return cell.Between(p.g, p.n, p.level, p.cell) }

// children takes a cell that there is, of a level above 1.
func (p place) children() []place {
	var cells []int
	below := p.n.Cells[p.level-2]
	for v, label := range p.n.Cells[p.level-1] {
		if label == p.cell {
			cells = append(cells, below[v])
		}
	}
	slices.Sort(cells)
	var children []place
	for _, child := range slices.Compact(cells) {
		children = append(children, place{p.g, p.n, p.level - 1, child})
	}
	return children
}

// byArcs answers ErrShape for any other number of weights, however great: a graph has fewer arcs than api.MaxItems.
func (p place) byArcs(epoch int, weights []uint32) (api.Matrix, api.Errno) {
	arcs, e := p.inner()
	if e != api.OK {
		return api.Matrix{}, e
	}
	if e := checkJob(epoch, weights, arcs); e != api.OK {
		return api.Matrix{}, e
	}
	// A walk from within that has no other arcs than these never leaves the cell.
	alone := api.Graph{N: p.g.N, Arcs: weighed(p.g, arcs, weights)}
	return p.matrix(epoch, func(s int) []api.Dist {
		far, _ := near.From(alone, s) // no error: its ends are the right graph's own
		return far
	})
}

func (p place) byChildren(epoch int, weights []uint32, matrices []api.Matrix) (api.Matrix, api.Errno) {
	arcs, e := p.between()
	if e != api.OK {
		return api.Matrix{}, e
	}
	if e := checkJob(epoch, weights, arcs); e != api.OK {
		return api.Matrix{}, e
	}
	children := p.children()
	if len(matrices) != len(children) {
		return api.Matrix{}, api.ErrMatrix
	}
	on := make(roads, p.g.N)
	for at, child := range children {
		m := matrices[at]
		boundary, e := child.boundary()
		if e != api.OK || !child.has(m, boundary) || m.Epoch > epoch {
			return api.Matrix{}, api.ErrMatrix
		}
		on.addMatrix(boundary, m.D)
	}
	on.addArcs(weighed(p.g, arcs, weights))
	return p.matrix(epoch, on.from)
}

// matrix goes row by row: from tells how far all vertices lie from one.
func (p place) matrix(epoch int, from func(s int) []api.Dist) (api.Matrix, api.Errno) {
	boundary, e := p.boundary()
	if e != api.OK {
		return api.Matrix{}, e
	}
	rows := make([]api.Dist, 0, len(boundary)*len(boundary))
	for _, s := range boundary {
		far := from(s)
		for _, t := range boundary {
			rows = append(rows, far[t])
		}
	}
	return api.Matrix{Level: p.level, Cell: p.cell, Epoch: epoch, D: rows}, api.OK
}

func (p place) has(m api.Matrix, boundary []int) bool {
	return m.Level == p.level && m.Cell == p.cell && mayBe(m, boundary)
}

// mayBe takes the boundary of the matrix's own cell. A matrix may have more members than api.MaxItems: as many as its cell asks for.
func mayBe(m api.Matrix, boundary []int) bool {
	return isEpoch(m.Epoch) && len(m.D) == len(boundary)*len(boundary)
}

func isEpoch(epoch int) bool { return epoch >= 0 && epoch <= api.MaxTicks }

func checkJob(epoch int, weights []uint32, arcs []int) api.Errno {
	if !isEpoch(epoch) {
		return api.ErrRange
	}
	if len(weights) != len(arcs) {
		return api.ErrShape
	}
	return api.OK
}

// weighed are the arcs of these ids, with other weights.
func weighed(g api.Graph, ids []int, weights []uint32) []api.Arc {
	arcs := make([]api.Arc, len(ids))
	for at, id := range ids {
		arcs[at] = g.Arcs[id]
		arcs[at].Weight = weights[at]
	}
	return arcs
}
