package nest

import (
	"flyover/api"
	"flyover/graph"
	"flyover/split"
)

// labels are of each vertex its cell, and of each cell its size. They are right.
type labels struct {
	cells, sizes []int
}

func (l labels) of(v int) int { return l.cells[v] }

func (l labels) many() int { return len(l.sizes) }

func (l labels) has(cell int) bool { return cell >= 0 && cell < l.many() }

func (l labels) members(cell int) []int {
	vertices := make([]int, 0, l.sizes[cell])
	for v, label := range l.cells {
		if label == cell {
			vertices = append(vertices, v)
		}
	}
	return vertices
}

// leasts answers of each cell its least vertex, which stands for all of it where cells are known to be nested.
func (l labels) leasts() []int {
	vertices := make([]int, 0, l.many())
	for v, label := range l.cells {
		if label == len(vertices) {
			vertices = append(vertices, v)
		}
	}
	return vertices
}

func (l labels) within(bound int) bool {
	for _, size := range l.sizes {
		if size > bound {
			return false
		}
	}
	return true
}

func (l labels) nestedIn(above labels) bool {
	leasts := l.leasts()
	for v, label := range l.cells {
		if above.of(v) != above.of(leasts[label]) {
			return false
		}
	}
	return true
}

// level is what a nest has of one. The zero level has no vertex and the bound 0: the lowest one is checked as if that lay below it.
type level struct {
	labels
	bound int
}

// look answers the levels of a nest that is right, else the first that is not.
func look(g api.Graph, n api.Nest) (levels []level, wrong int, e api.Errno) {
	if _, e := graph.Check(g); e != api.OK {
		return nil, 0, e
	}
	if !someLevels(n.Bounds) || len(n.Cells) != len(n.Bounds) {
		return nil, 0, api.ErrLevel
	}
	var below level
	for at, bound := range n.Bounds {
		here, e := below.next(g, bound, n.Cells[at])
		if e != api.OK {
			return nil, at + 1, e
		}
		levels = append(levels, here)
		below = here
	}
	return levels, 0, api.OK
}

func someLevels(bounds []int) bool { return len(bounds) >= 1 && len(bounds) <= api.MaxLevels }

// isBound takes the bound below: 0 of the lowest level, so that its own is from 1 on.
func isBound(bound, below int) bool { return bound > below && bound <= api.MaxVertices }

func (below level) next(g api.Graph, bound int, cells []int) (level, api.Errno) {
	if !isBound(bound, below.bound) {
		return level{}, api.ErrRange
	}
	sizes, e := split.Sizes(g, cells)
	if e != api.OK {
		return level{}, e
	}
	here := level{labels{cells, sizes}, bound}
	if !here.within(bound) {
		return level{}, api.ErrBound
	}
	if !below.nestedIn(here.labels) {
		return level{}, api.ErrNest
	}
	return here, api.OK
}

func lookAt(g api.Graph, n api.Nest, at int) ([]level, api.Errno) {
	levels, _, e := look(g, n)
	if e != api.OK {
		return nil, e
	}
	if at < 1 || at > len(levels) {
		return nil, api.ErrLevel
	}
	return levels, api.OK
}

func lookInto(g api.Graph, n api.Nest, at, cell int) ([]level, api.Errno) {
	levels, e := lookAt(g, n, at)
	if e != api.OK {
		return nil, e
	}
	if !levels[at-1].has(cell) {
		return nil, api.ErrCell
	}
	return levels, api.OK
}
