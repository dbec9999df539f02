// Package plain is for the tests of several layers, and no layer calls it: a second reading of the document's words in the plainest way, and graphs and nests to hold the layers against it. It knows of no layer, so that it shares no mistake with one.
package plain

import (
	"math/bits"
	"slices"

	"flyover/api"
)

// Way is an arc whose weight may be any distance.
type Way struct {
	From, To int
	Far      api.Dist
}

func Add(a, b api.Dist) api.Dist {
	sum, carry := bits.Add64(uint64(a), uint64(b), 0)
	if carry > 0 {
		return api.Inf
	}
	return api.Dist(sum)
}

// Far goes over all ways again and again, till nothing lies nearer any more.
func Far(n int, ways []Way, s int) []api.Dist {
	far := slices.Repeat([]api.Dist{api.Inf}, n)
	far[s] = 0
	for changed := true; changed; {
		changed = false
		for _, w := range ways {
			if d := Add(far[w.From], w.Far); d < far[w.To] {
				far[w.To], changed = d, true
			}
		}
	}
	return far
}

// Ways are the arcs of these ids, with g's weights.
func Ways(g api.Graph, ids []int) []Way {
	var ways []Way
	for _, id := range ids {
		ways = append(ways, Way{g.Arcs[id].From, g.Arcs[id].To, api.Dist(g.Arcs[id].Weight)})
	}
	return ways
}

func Weights(g api.Graph, ids []int) []uint32 {
	var l []uint32
	for _, id := range ids {
		l = append(l, g.Arcs[id].Weight)
	}
	return l
}

// Whole is the right matrix: over the arcs both of whose ends are in the cell, with g's weights.
func Whole(g api.Graph, n api.Nest, level, cell int) []api.Dist {
	return square(g.N, Ways(g, Inner(g, n, level, cell)), Boundary(g, n, level, cell))
}

// Up is what chapter 13 makes of children's matrices: each member is an arc, and so is each arc between the children; the weights are g's.
func Up(g api.Graph, n api.Nest, level, cell int, children []api.Matrix) []api.Dist {
	ways := Ways(g, Between(g, n, level, cell))
	for i, child := range Children(n, level, cell) {
		boundary := Boundary(g, n, level-1, child)
		for row, from := range boundary {
			for column, to := range boundary {
				ways = append(ways, Way{from, to, children[i].D[row*len(boundary)+column]})
			}
		}
	}
	return square(g.N, ways, Boundary(g, n, level, cell))
}

func square(n int, ways []Way, boundary []int) []api.Dist {
	var l []api.Dist
	for _, s := range boundary {
		far := Far(n, ways, s)
		for _, end := range boundary {
			l = append(l, far[end])
		}
	}
	return l
}

// Overlay is of each cell the right matrix.
func Overlay(g api.Graph, n api.Nest, epoch int) [][]api.Matrix {
	all := make([][]api.Matrix, len(n.Cells))
	for at := range all {
		for cell := range Many(n, at+1) {
			all[at] = append(all[at], api.Matrix{Level: at + 1, Cell: cell, Epoch: epoch, D: Whole(g, n, at+1, cell)})
		}
	}
	return all
}

// Chosen are the matrices of these cells.
func Chosen(l []api.Matrix, cells []int) []api.Matrix {
	var some []api.Matrix
	for _, cell := range cells {
		some = append(some, l[cell])
	}
	return some
}
