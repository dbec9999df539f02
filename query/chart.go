package query

import (
	"flyover/api"
	"flyover/overlay"
)

// trip is what is asked: how far it is from s to t, over an overlay.
type trip struct {
	g    api.Graph
	n    api.Nest
	o    [][]api.Matrix
	s, t int
}

func (q trip) check() api.Errno {
	if e := overlay.Check(q.g, q.n, q.o); e != api.OK {
		return e
	}
	if !isVertex(q.g, q.s) || !isVertex(q.g, q.t) {
		return api.ErrNone
	}
	return api.OK
}

func (q trip) gather(there, back []api.Dist, direct api.Dist) (api.Dist, api.Errno) {
	on := q.chart()
	if len(there) != len(on.blocks[q.s].boundary) || len(back) != len(on.blocks[q.t].boundary) {
		return 0, api.ErrShape
	}
	return meet(begin(forward{}, on, q.s, there), begin(backward{}, on, q.t, back), direct), api.OK
}

// block is a cell that is passed as a whole.
type block struct {
	boundary []int
	members  []api.Dist // of its matrix
}

// chart is what a trip is searched on. Its blocks part the vertices: a walk goes through a block, over an arc, through the next block, and so on.
type chart struct {
	blocks []*block  // of each vertex the one in which it lies
	places []int     // of each boundary vertex its place among its block's
	arcs   []api.Arc // those from block to block
}

func (q trip) chart() chart {
	on := chart{blocks: q.blocks(), places: make([]int, q.g.N)}
	// Blocks are whole cells, so an arc that leaves one makes boundary vertices of both its ends.
	ends := make([]bool, q.g.N)
	for _, a := range q.g.Arcs {
		if on.blocks[a.From] != on.blocks[a.To] {
			on.arcs = append(on.arcs, a)
			ends[a.From], ends[a.To] = true, true
		}
	}
	for v, here := range on.blocks {
		if ends[v] {
			on.places[v] = len(here.boundary)
			here.boundary = append(here.boundary, v)
		}
	}
	return on
}

func (q trip) blocks() []*block {
	all := make([][]block, len(q.o))
	for at, list := range q.o {
		all[at] = make([]block, len(list))
		for cell, m := range list {
			all[at][cell].members = m.D
		}
	}
	blocks := make([]*block, q.g.N)
	for v := range blocks {
		at := q.level(v) - 1
		blocks[v] = &all[at][q.n.Cells[at][v]]
	}
	return blocks
}

// level is that of the cell as part of which v is passed: the greatest one that holds no end of the trip. Of the cells that hold one the least is passed as a whole, too: the pieces lead only to its boundary and from there, and a walk may come through it once more in between.
func (q trip) level(v int) int {
	level := 1
	for at, labels := range q.n.Cells {
		if labels[v] == labels[q.s] || labels[v] == labels[q.t] {
			break
		}
		level = at + 1
	}
	return level
}
