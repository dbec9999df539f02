package natcut

import (
	"flyover/api"
	"flyover/flow"
	"flyover/grow"
)

// The nodes that stand for many vertices at once, and the first of those that stand for one each.
const (
	coreNode = iota
	outsideNode
	firstNode
)

// cutAround takes all pairs of the graph, so that they need not be found anew for each centre.
func cutAround(g api.Graph, all []api.Pair, centre, most int) ([]api.Pair, api.Errno) {
	region, e := grow.Region(g, centre, most)
	if e != api.OK {
		return nil, e
	}
	if len(region) == g.N {
		return nil, api.OK
	}
	core, e := grow.Core(g, centre, most)
	if e != api.OK {
		return nil, e
	}
	nodes := nodesOf(g, region, len(core))
	network := api.Network{N: firstNode + len(region) - len(core), Edges: edgesOf(all, nodes)}
	side, _, _, e := flow.Cut(network, coreNode, outsideNode)
	if e != api.OK {
		return nil, e
	}
	var cut []api.Pair
	for _, pair := range all {
		if side[nodes[pair.A]] != side[nodes[pair.B]] {
			cut = append(cut, pair)
		}
	}
	return cut, api.OK
}

// nodesOf answers of each vertex the node that stands for it. A region begins with its core.
func nodesOf(g api.Graph, region []int, core int) []int {
	nodes := make([]int, g.N)
	for v := range nodes {
		nodes[v] = outsideNode
	}
	for at, v := range region {
		if at < core {
			nodes[v] = coreNode
		} else {
			nodes[v] = firstNode + at - core
		}
	}
	return nodes
}

// edgesOf makes two edges of a pair, since a cut counts what leads out of it alone, and a pair may lie either way round.
func edgesOf(all []api.Pair, nodes []int) []api.Edge {
	edges := make([]api.Edge, 0, 2*len(all))
	for _, pair := range all {
		from, to := nodes[pair.A], nodes[pair.B]
		if from != to {
			edges = append(edges, api.Edge{From: from, To: to, Cap: 1}, api.Edge{From: to, To: from, Cap: 1})
		}
	}
	return edges
}
