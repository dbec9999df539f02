package query

import (
	"slices"

	"flyover/api"
	"flyover/dist"
	"flyover/heap"
)

// search goes out from an end of a trip, the nearest boundary vertices first.
type search struct {
	way   direction
	on    chart
	out   [][]api.Arc // of each vertex the arcs over which the search leaves its block
	far   []api.Dist  // the least lengths found so far
	queue *heap.Heap
}

// begin takes the piece of an end v of a trip: how far the boundary vertices of its block are.
func begin(way direction, on chart, v int, piece []api.Dist) *search {
	many := len(on.blocks)
	queue, _ := heap.New(many) // no error: a right graph has fewer vertices than a heap may have numbers
	f := &search{way: way, on: on, out: make([][]api.Arc, many), far: slices.Repeat([]api.Dist{api.Inf}, many), queue: queue}
	for _, a := range on.arcs {
		here, _ := way.ends(a)
		f.out[here] = append(f.out[here], a)
	}
	for at, end := range on.blocks[v].boundary {
		f.arrive(end, piece[at])
	}
	return f
}

func (f *search) arrive(v int, d api.Dist) {
	if d < f.far[v] {
		f.far[v] = d
		f.queue.Lower(v, d)
	}
}

// nearest is how far the next vertex lies; Inf, if all are done.
func (f *search) nearest() api.Dist {
	_, d, e := f.queue.Top()
	if e != api.OK {
		return api.Inf
	}
	return d
}

// step goes on from the nearest vertex, which there must be, and answers it.
func (f *search) step() int {
	v, d, _ := f.queue.Pop()
	here := f.on.blocks[v]
	for place, next := range here.boundary {
		member := f.way.member(f.on.places[v], place, len(here.boundary))
		f.arrive(next, dist.Add(d, here.members[member]))
	}
	for _, a := range f.out[v] {
		_, next := f.way.ends(a)
		f.arrive(next, dist.Add(d, api.Dist(a.Weight)))
	}
	return v
}

// meet takes the searches from both ends, and the length of a walk that is known without them.
func meet(from, to *search, known api.Dist) api.Dist {
	best := known
	// A walk that is not found yet is no shorter than both searches' nearest vertices lie far, together.
	for dist.Add(from.nearest(), to.nearest()) < best {
		one, other := from, to
		if other.nearest() < one.nearest() {
			one, other = other, one
		}
		v := one.step()
		best = min(best, dist.Add(one.far[v], other.far[v]))
	}
	return best
}
