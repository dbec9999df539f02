package clique

import (
	"flyover/api"
	"flyover/dist"
)

// road leads to a vertex. A matrix's members do not fit into an arc's weight, so that layer 5 can't search over them.
type road struct {
	to  int
	far api.Dist
}

// roads are those out of each vertex.
type roads [][]road

func (r roads) add(from, to int, far api.Dist) {
	if far < api.Inf {
		r[from] = append(r[from], road{to, far})
	}
}

func (r roads) addMatrix(boundary []int, members []api.Dist) {
	for at, far := range members {
		r.add(boundary[at/len(boundary)], boundary[at%len(boundary)], far)
	}
}

func (r roads) addArcs(arcs []api.Arc) {
	for _, a := range arcs {
		r.add(a.From, a.To, api.Dist(a.Weight))
	}
}

// from answers how far all vertices lie from s.
func (r roads) from(s int) []api.Dist {
	far := make([]api.Dist, len(r))
	for v := range far {
		far[v] = api.Inf
	}
	far[s] = 0
	search(s, far, func(v int, open []int) []int {
		d := far[v]
		for _, next := range r[v] {
			longer := dist.Add(d, next.far)
			if longer >= far[next.to] {
				continue
			}
			if far[next.to] == api.Inf {
				open = append(open, next.to)
			}
			far[next.to] = longer
		}
		return open
	})
	return far
}

// search goes out from s, the nearest vertices first. It knows of no roads: step goes one road on from a vertex, by all of them, and puts behind the open vertices those that it is the first to come to.
func search(s int, far []api.Dist, step func(v int, open []int) []int) {
	open := []int{s}
	for len(open) > 0 {
		v, others := takeNearest(open, far)
		open = step(v, others)
	}
}

// takeNearest looks at all of them: that takes no longer than going over a matrix's members, one for each two vertices, and an order would have to be kept at each of these.
func takeNearest(open []int, far []api.Dist) (v int, others []int) {
	nearest, last := 0, len(open)-1
	for at, v := range open {
		if far[v] < far[open[nearest]] {
			nearest = at
		}
	}
	v = open[nearest]
	open[nearest] = open[last]
	return v, open[:last]
}
