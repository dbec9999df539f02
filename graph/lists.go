package graph

import "flyover/api"

// list is filled by its add, which is handed as a value to those that go through a graph: they find members, and need not know where these are put.
type list []int

func (l *list) add(member int) { *l = append(*l, member) }

func Out(g api.Graph, v int) ([]int, api.Errno) { return around(g, v, arcsOut) }

func In(g api.Graph, v int) ([]int, api.Errno) { return around(g, v, arcsInto) }

func Neighbours(g api.Graph, v int) ([]int, api.Errno) { return around(g, v, neighbours) }

func around(g api.Graph, v int, find func(g api.Graph, v int, found func(member int))) ([]int, api.Errno) {
	if _, e := Check(g); e != api.OK {
		return nil, e
	}
	if !isVertex(g, v) {
		return nil, api.ErrNone
	}
	var members list
	find(g, v, members.add)
	return members, api.OK
}

func arcsOut(g api.Graph, v int, found func(id int)) {
	for id, arc := range g.Arcs {
		if arc.From == v {
			found(id)
		}
	}
}

func arcsInto(g api.Graph, v int, found func(id int)) {
	for id, arc := range g.Arcs {
		if arc.To == v {
			found(id)
		}
	}
}

// neighbours marks them ahead of telling, since arcs come in any order and several may go between the same two.
func neighbours(g api.Graph, v int, found func(w int)) {
	beside := make([]bool, g.N)
	for _, arc := range g.Arcs {
		if arc.From == v {
			beside[arc.To] = true
		}
		if arc.To == v {
			beside[arc.From] = true
		}
	}
	beside[v] = false
	marked(beside, found)
}

func marked(marks []bool, found func(at int)) {
	for at, mark := range marks {
		if mark {
			found(at)
		}
	}
}

func inside(g api.Graph, keep []bool, found func(id int)) {
	for id, arc := range g.Arcs {
		if keep[arc.From] && keep[arc.To] {
			found(id)
		}
	}
}
