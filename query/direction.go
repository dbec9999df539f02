package query

import (
	"flyover/api"
	"flyover/near"
)

// direction is which way a search goes: on from where walks begin, or back from where they end.
type direction interface {
	// far answers how far all vertices lie from v, or v from them.
	far(g api.Graph, v int) ([]api.Dist, api.Errno)
	// ends are an arc's: first the one from which the search goes over it.
	ends(a api.Arc) (here, next int)
	// member is the place, in a matrix of so many rows, of what the search adds to go from here to next.
	member(here, next, rows int) int
}

type forward struct{}

func (forward) far(g api.Graph, v int) ([]api.Dist, api.Errno) { return near.From(g, v) }

func (forward) ends(a api.Arc) (here, next int) { return a.From, a.To }

func (forward) member(here, next, rows int) int { return here*rows + next }

type backward struct{}

func (backward) far(g api.Graph, v int) ([]api.Dist, api.Errno) { return near.To(g, v) }

func (backward) ends(a api.Arc) (here, next int) { return a.To, a.From }

func (backward) member(here, next, rows int) int { return next*rows + here }

func directionOf(back bool) direction {
	if back {
		return backward{}
	}
	return forward{}
}
