package unpack

import "flyover/api"

// trip is what is asked: by which arcs it is the shortest from s to t, over an overlay.
type trip struct {
	g    api.Graph
	n    api.Nest
	o    [][]api.Matrix
	s, t int
}

// block is a cell that is passed as a whole, or a vertex that is passed alone.
type block struct {
	level    int // 0 of a vertex
	boundary []int
	members  []api.Dist // of its matrix
}

// chart is what a trip is searched on. Its blocks part the vertices: a walk goes through a block, over an arc, through the next block, and so on.
type chart struct {
	blocks []*block // of each vertex the one in which it lies
	places []int    // of each boundary vertex its place among its block's
	out    [][]int  // of each vertex the arcs from it to another block
}

func (q trip) chart() chart {
	on := chart{blocks: q.blocks(), places: make([]int, q.g.N), out: make([][]int, q.g.N)}
	// Blocks are whole cells, so an arc that leaves one makes boundary vertices of both its ends.
	ends := make([]bool, q.g.N)
	for id, a := range q.g.Arcs {
		if on.blocks[a.From] != on.blocks[a.To] {
			on.out[a.From] = append(on.out[a.From], id)
			ends[a.From], ends[a.To] = true, true
		}
	}
	for v, here := range on.blocks {
		// A vertex that is passed alone has no matrix to go over.
		if ends[v] && here.level > 0 {
			on.places[v] = len(here.boundary)
			here.boundary = append(here.boundary, v)
		}
	}
	return on
}

func (q trip) blocks() []*block {
	all := make([][]block, len(q.o))
	for at, list := range q.o {
		all[at] = make([]block, len(list))
		for cell, m := range list {
			all[at][cell] = block{level: at + 1, members: m.D}
		}
	}
	blocks := make([]*block, q.g.N)
	for v := range blocks {
		if level := q.level(v); level > 0 {
			blocks[v] = &all[level-1][q.n.Cells[level-1][v]]
		} else {
			blocks[v] = &block{}
		}
	}
	return blocks
}

// level is that of the cell as part of which v is passed: the greatest one that holds no end of the trip. It is 0, if there is none: close to an end a walk goes by single arcs.
func (q trip) level(v int) int {
	level := 0
	for at, labels := range q.n.Cells {
		if labels[v] == labels[q.s] || labels[v] == labels[q.t] {
			break
		}
		level = at + 1
	}
	return level
}
