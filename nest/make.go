package nest

import (
	"flyover/api"
	"flyover/graph"
	"flyover/local"
	"flyover/natcut"
	"flyover/split"
)

// checkPlan looks at all that is given ahead of the first step: the layers below would find what is wrong in another order.
func checkPlan(g api.Graph, bounds, centres []int, moves int) api.Errno {
	if _, e := graph.Check(g); e != api.OK {
		return e
	}
	if !someLevels(bounds) {
		return api.ErrLevel
	}
	below := 0
	for _, bound := range bounds {
		if !isBound(bound, below) {
			return api.ErrRange
		}
		below = bound
	}
	if len(centres) > api.MaxItems {
		return api.ErrLong
	}
	for _, centre := range centres {
		if !isVertex(g, centre) {
			return api.ErrNone
		}
	}
	if moves < 0 || moves > api.MaxItems {
		return api.ErrRange
	}
	return api.OK
}

func lowest(g api.Graph, bound int, centres []int, moves int) ([]int, api.Errno) {
	marks, e := natcut.Marks(g, centres, bound)
	if e != api.OK {
		return nil, e
	}
	fragments, e := natcut.Fragments(g, marks)
	if e != api.OK {
		return nil, e
	}
	pieces, e := split.CutUp(g, fragments, bound)
	if e != api.OK {
		return nil, e
	}
	cells, e := split.Join(g, pieces, bound)
	if e != api.OK {
		return nil, e
	}
	better, _, e := local.Improve(g, cells, bound, moves)
	return better, e
}

// upwards answers the cells of all levels, of which the lowest are given, with the bounds above them. No vertex is moved any more: it would leave the cell that it is nested in.
func upwards(g api.Graph, cells []int, bounds []int) ([][]int, api.Errno) {
	all := [][]int{cells}
	for _, bound := range bounds {
		joined, e := split.Join(g, cells, bound)
		if e != api.OK {
			return nil, e
		}
		all = append(all, joined)
		cells = joined
	}
	return all, api.OK
}
