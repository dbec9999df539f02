package near

import (
	"flyover/api"
	"flyover/dist"
	"flyover/heap"
)

// none stands for an arc where there is none.
const none = -1

// reach is told of a walk to v, its length and its last arc, and answers whether it is to be gone on from there: only where it is shorter than those told ahead, or the search would not end.
type reach func(v int, d api.Dist, by int) bool

// shorter keeps in far the least length told of each vertex.
func shorter(far []api.Dist) reach {
	return func(v int, d api.Dist, _ int) bool {
		if d >= far[v] {
			return false
		}
		far[v] = d
		return true
	}
}

func unreached(n int) []api.Dist { return filled(n, api.Inf) }

func filled[T any](n int, with T) []T {
	l := make([]T, n)
	for i := range l {
		l[i] = with
	}
	return l
}

// search goes out from one vertex, the nearest vertices first. It knows of no distances but those in its queue: what is done at a vertex is up to reached.
type search struct {
	arcs    []api.Arc
	out     chains
	queue   *heap.Heap
	reached reach
}

// begin takes a graph that is right and a vertex of it.
func begin(g api.Graph, s int, reached reach) *search {
	queue, _ := heap.New(g.N) // no error: a right graph has fewer vertices than a heap may have numbers
	f := &search{arcs: g.Arcs, out: chained(g), queue: queue, reached: reached}
	f.arrive(s, 0, none)
	return f
}

func (f *search) arrive(v int, d api.Dist, by int) {
	if f.reached(v, d, by) {
		f.queue.Lower(v, d)
	}
}

// nearest is how far the next vertex lies; Inf, if all are done.
func (f *search) nearest() api.Dist {
	_, d, e := f.queue.Top()
	if e != api.OK {
		return api.Inf
	}
	return d
}

func (f *search) step() {
	v, d, e := f.queue.Pop()
	if e != api.OK {
		return
	}
	for id := f.out.first[v]; id != none; id = f.out.next[id] {
		arc := f.arcs[id]
		f.arrive(arc.To, dist.Add(d, api.Dist(arc.Weight)), id)
	}
}

func (f *search) goAll() {
	for f.nearest() < api.Inf {
		f.step()
	}
}

// chains are the arcs out of each vertex, in any order: its first one, and of each arc the next one. graph.Out would go through all arcs at each vertex.
type chains struct {
	first, next []int
}

func chained(g api.Graph) chains {
	c := chains{first: filled(g.N, none), next: make([]int, len(g.Arcs))}
	for id, arc := range g.Arcs {
		c.next[id] = c.first[arc.From]
		c.first[arc.From] = id
	}
	return c
}
