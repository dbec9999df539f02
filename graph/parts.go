package graph

import "flyover/api"

func Induced(g api.Graph, keep []bool) (h api.Graph, vertices, arcs []int, e api.Errno) {
	if _, e := Check(g); e != api.OK {
		return api.Graph{}, nil, nil, e
	}
	if len(keep) != g.N {
		return api.Graph{}, nil, nil, api.ErrShape
	}
	var kept, ids list
	marked(keep, kept.add)
	if len(kept) == 0 {
		return api.Graph{}, nil, nil, api.ErrNone
	}
	inside(g, keep, ids.add)
	return part(g, kept, ids), kept, ids, api.OK
}

// part answers the graph of these vertices and arcs, which are numbered anew.
func part(g api.Graph, vertices, ids []int) api.Graph {
	number := make([]int, g.N)
	for n, v := range vertices {
		number[v] = n
	}
	arcs := make([]api.Arc, len(ids))
	for n, id := range ids {
		arc := g.Arcs[id]
		arcs[n] = api.Arc{From: number[arc.From], To: number[arc.To], Weight: arc.Weight}
	}
	return api.Graph{N: len(vertices), Arcs: arcs}
}

func Parts(g api.Graph) ([]int, api.Errno) {
	if _, e := Check(g); e != api.OK {
		return nil, e
	}
	lead := make([]int, g.N)
	for v := range lead {
		lead[v] = v
	}
	for _, arc := range g.Arcs {
		join(lead, arc.From, arc.To)
	}
	return tidy(lead), api.OK
}

// join lets the greater of two leaders follow the lesser one, so that nobody follows a greater vertex.
func join(lead []int, v, w int) {
	v, w = leader(lead, v), leader(lead, w)
	lead[max(v, w)] = min(v, w)
}

// leader shortens the way on which it goes, since vertices might follow one another in a long row.
func leader(lead []int, v int) int {
	for lead[v] != v {
		lead[v] = lead[lead[v]]
		v = lead[v]
	}
	return v
}

// tidy goes from the least vertex on: whom a vertex follows is lesser, and has its label already.
func tidy(lead []int) []int {
	labels := make([]int, len(lead))
	next := 0
	for v, w := range lead {
		if w != v {
			labels[v] = labels[w]
			continue
		}
		labels[v] = next
		next++
	}
	return labels
}
