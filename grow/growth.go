package grow

import (
	"iter"
	"slices"

	"flyover/api"
)

// none stands for an end of an arc where there is none.
const none = -1

// growth knows which vertices it has come upon, so that those around one centre can go on where those around another one came to an end.
//
// The ends of the arcs at each vertex are chained: graph.Neighbours would go through all arcs at each vertex. The ends of the arc id have the numbers 2*id, where it begins, and 2*id + 1.
type growth struct {
	arcs        []api.Arc
	first, next []int
	seen        []bool
}

// begin takes a graph that is right.
func begin(g api.Graph) *growth {
	w := &growth{arcs: g.Arcs, first: make([]int, g.N), next: make([]int, 2*len(g.Arcs)), seen: make([]bool, g.N)}
	for v := range w.first {
		w.first[v] = none
	}
	for id, arc := range g.Arcs {
		w.chain(arc.From, 2*id)
		w.chain(arc.To, 2*id+1)
	}
	return w
}

func (w *growth) chain(v, end int) {
	w.next[end], w.first[v] = w.first[v], end
}

// across is the vertex at an arc's other end.
func (w *growth) across(end int) int {
	if end%2 == 0 {
		return w.arcs[end/2].To
	}
	return w.arcs[end/2].From
}

// around tells the order around a centre that it has not come upon yet, as far as it is asked for; it looks no farther than that.
func (w *growth) around(centre int) iter.Seq[int] {
	return func(yield func(int) bool) {
		w.seen[centre] = true
		list := []int{centre}
		for at := 0; at < len(list); at++ {
			if !yield(list[at]) {
				return
			}
			list = w.extend(list, list[at])
		}
	}
}

// extend marks what it adds at once, so that a neighbour by several arcs comes once, and a vertex is none of its own.
func (w *growth) extend(list []int, v int) []int {
	from := len(list)
	for end := w.first[v]; end != none; end = w.next[end] {
		if to := w.across(end); !w.seen[to] {
			w.seen[to] = true
			list = append(list, to)
		}
	}
	slices.Sort(list[from:])
	return list
}
