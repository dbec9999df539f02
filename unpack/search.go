package unpack

import (
	"slices"

	"flyover/api"
)

// none stands for a vertex where there is none.
const none = -1

// leg is a part of a walk over the overlay: a shortcut through a cell, or an arc.
type leg struct {
	from, to int
	level    int // of the shortcut's cell; 0 of an arc
	arc      int // its id; 0 of a shortcut
}

// search goes out from where a trip begins, the nearest vertices first.
type search struct {
	g    api.Graph
	on   chart
	far  []api.Dist // the least lengths found so far
	last []leg      // of each vertex the one by which it was reached so
	done []bool
}

// legs answers false where no walk goes over the overlay.
func (q trip) legs() (legs []leg, found bool) {
	many := q.g.N
	f := &search{g: q.g, on: q.chart(), far: slices.Repeat([]api.Dist{api.Inf}, many), last: make([]leg, many), done: make([]bool, many)}
	f.far[q.s] = 0
	for v := q.s; v != q.t; v = f.nearest() {
		if v == none {
			return nil, false
		}
		f.step(v)
	}
	return f.trace(q.s, q.t), true
}

// nearest goes through all vertices: they are too few to keep a heap of them.
func (f *search) nearest() int {
	best, least := none, api.Inf
	for v, d := range f.far {
		if d < least && !f.done[v] {
			best, least = v, d
		}
	}
	return best
}

func (f *search) step(v int) {
	f.done[v] = true
	here := f.on.blocks[v]
	row := f.on.places[v] * len(here.boundary)
	for place, next := range here.boundary {
		f.arrive(leg{from: v, to: next, level: here.level}, here.members[row+place])
	}
	for _, id := range f.on.out[v] {
		a := f.g.Arcs[id]
		f.arrive(leg{from: v, to: a.To, arc: id}, api.Dist(a.Weight))
	}
}

// arrive keeps of legs by which a vertex is equally far the first one. So, if the overlay is right, no vertex comes twice in a walk, and chapter 5 can tell its length: a walk goes through a cell once more only where that is shorter than to have gone on within it.
func (f *search) arrive(by leg, far api.Dist) {
	// An overlay that is not right may tell any numbers.
	if far >= api.Inf-f.far[by.from] {
		return
	}
	if d := f.far[by.from] + far; d < f.far[by.to] {
		f.far[by.to], f.last[by.to] = d, by
	}
}

// trace comes to an end since each leg began at a vertex that was done ahead.
func (f *search) trace(s, t int) []leg {
	var legs []leg
	for v := t; v != s; v = f.last[v].from {
		legs = append(legs, f.last[v])
	}
	slices.Reverse(legs)
	return legs
}
