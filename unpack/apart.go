package unpack

import "flyover/api"

// takeApart tells the arcs of all legs, and how long these are. Where an overlay that is not right tells of a shortcut that there is not, there is no walk.
func (q trip) takeApart(legs []leg) (arcs []int, d api.Dist, e api.Errno) {
	walks := make([][]int, len(legs))
	for at, l := range legs {
		walk, far, e := q.walkOf(l)
		if e != api.OK {
			return nil, 0, e
		}
		if far == api.Inf {
			return nil, api.Inf, api.OK
		}
		walks[at] = walk
		d += far // far from turning over: there are fewer legs than vertices, and so are the arcs of each
	}
	return joined(walks), d, api.OK
}

func (q trip) walkOf(l leg) (arcs []int, d api.Dist, e api.Errno) {
	if l.level == 0 {
		return []int{l.arc}, api.Dist(q.g.Arcs[l.arc].Weight), api.OK
	}
	return Shortcut(q.g, q.n, l.level, q.n.Cells[l.level-1][l.from], l.from, l.to)
}

func joined(walks [][]int) []int {
	many := 0
	for _, walk := range walks {
		many += len(walk)
	}
	arcs := make([]int, many)
	rest := arcs
	for _, walk := range walks {
		rest = rest[copy(rest, walk):]
	}
	return arcs
}
