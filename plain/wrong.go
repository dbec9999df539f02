package plain

import (
	"math"

	"flyover/api"
)

// Refused is a graph or a nest that is not right, and what a call must answer of it.
type Refused struct {
	G    api.Graph
	N    api.Nest
	Want api.Errno
}

// WrongGraphs are what chapter 3's Check refuses, with nests that are right and others.
func WrongGraphs() []Refused {
	nests := []api.Nest{{}, Cells([]int{2}, []int{0, 0}), Cells([]int{1}, []int{0, 1}), Cells([]int{0}, []int{0, 1}), Cells([]int{2, 3}, []int{0, 0}, []int{0, 1}), Cells([]int{1024}, make([]int, 1025))}
	var all []Refused
	for _, n := range nests {
		for _, vertices := range []int{math.MinInt, -1, 0, api.MaxVertices + 1, math.MaxInt} {
			all = append(all, Refused{api.Graph{N: vertices}, n, api.ErrRange})
		}
		all = append(all, Refused{api.Graph{N: 2, Arcs: make([]api.Arc, api.MaxArcs+1)}, n, api.ErrLong})
		for _, arc := range []api.Arc{{From: 0, To: 2}, {From: 2, To: 1}, {From: -1, To: 0}, {From: math.MaxInt, To: math.MinInt}} {
			all = append(all, Refused{api.Graph{N: 2, Arcs: []api.Arc{{From: 0, To: 1}, arc}}, n, api.ErrArc})
		}
	}
	return all
}

// WrongNests are what chapter 11's Check refuses, of a graph that is right.
func WrongNests() []Refused {
	g := api.Graph{N: 4, Arcs: []api.Arc{{From: 0, To: 1}, {From: 1, To: 2}, {From: 3, To: 3}}}
	one, whole, halves := Count(4), make([]int, 4), []int{0, 0, 1, 1}
	return []Refused{
		{g, api.Nest{}, api.ErrLevel}, {g, api.Nest{Bounds: []int{4}}, api.ErrLevel}, {g, api.Nest{Cells: [][]int{whole}}, api.ErrLevel},
		{g, Cells([]int{1, 2, 3, 4, 5, 6}, one, one, one, one, one, one), api.ErrLevel},
		{g, Cells([]int{0}, whole), api.ErrRange}, {g, Cells([]int{api.MaxVertices + 1}, whole), api.ErrRange}, {g, Cells([]int{2, 2}, halves, halves), api.ErrRange}, {g, Cells([]int{2, 4, 3}, halves, whole, whole), api.ErrRange},
		{g, Cells([]int{4}, nil), api.ErrLabel}, {g, Cells([]int{4}, whole[1:]), api.ErrLabel}, {g, Cells([]int{4}, []int{0, 2, 1, 1}), api.ErrLabel}, {g, Cells([]int{4}, []int{0, -1, 0, 0}), api.ErrLabel},
		{g, Cells([]int{4, 5}, whole, make([]int, 5)), api.ErrLabel}, {g, Cells([]int{4}, make([]int, api.MaxItems+1)), api.ErrLabel},
		{g, Cells([]int{3}, whole), api.ErrBound}, {g, Cells([]int{2, 3}, halves, whole), api.ErrBound},
		{g, Cells([]int{2, 3}, halves, []int{0, 1, 1, 1}), api.ErrNest}, {g, Cells([]int{2, 3, 4}, halves, halves, []int{0, 0, 0, 1}), api.ErrNest},
	}
}
