package shard

import (
	"flyover/api"
	"flyover/cell"
	"flyover/mess"
	"flyover/near"
)

func (s *Shard) measure(p part) ([]string, api.Errno) {
	home := s.n.Cells[0][p.Vertex]
	boundary, e := cell.Boundary(s.g, s.n, 1, home)
	if e != api.OK {
		return nil, api.ErrMessage
	}
	far, e := s.far(p, home)
	if e != api.OK {
		return nil, api.ErrMessage
	}
	var d []api.Dist
	for _, end := range append(boundary, p.Other) {
		d = append(d, far[end])
	}
	piece, e := mess.Encode(api.Message{Kind: api.MPiece, Query: p.Query, Epoch: p.Epoch, Back: p.Back, D: d})
	if e != api.OK {
		return nil, api.ErrMessage
	}
	return []string{piece}, api.OK
}

// far are the distances between the part's vertex and all others within its cell, under the part's weights.
func (s *Shard) far(p part, home int) ([]api.Dist, api.Errno) {
	ids, e := cell.Inner(s.g, s.n, 1, home)
	if e != api.OK {
		return nil, e
	}
	if len(p.Weights) != len(ids) {
		return nil, api.ErrMessage
	}
	// Without other arcs than these no walk leads out of the cell, so that a vertex outside of it is Inf away.
	alone := api.Graph{N: s.g.N, Arcs: weighed(s.g, ids, p.Weights)}
	if p.Back == 1 {
		return near.To(alone, p.Vertex)
	}
	return near.From(alone, p.Vertex)
}

// weighed are the arcs of these ids, with other weights.
func weighed(g api.Graph, ids []int, weights []uint32) []api.Arc {
	arcs := make([]api.Arc, len(ids))
	for at, id := range ids {
		arcs[at] = g.Arcs[id]
		arcs[at].Weight = weights[at]
	}
	return arcs
}
