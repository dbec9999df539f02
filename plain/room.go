package plain

import "flyover/api"

// Roomy is Rounds with its overlay; behind the ends of all lists is room in which wrong things stand.
func Roomy(epoch int) (api.Graph, api.Nest, [][]api.Matrix) {
	g, n := Rounds()
	bad := api.Arc{From: -7, To: -7, Weight: 7}
	g.Arcs = append(g.Arcs, bad, bad)[:len(g.Arcs)]
	n.Bounds = append(n.Bounds, -1, 9)[:len(n.Bounds)]
	n.Cells = append(n.Cells, []int{9})[:len(n.Cells)]
	for at, l := range n.Cells {
		n.Cells[at] = append(l, -9, 7)[:len(l)]
	}
	o := Overlay(g, n, epoch)
	o = append(o, []api.Matrix{{Level: 9}})[:len(o)]
	for at, l := range o {
		for cell, m := range l {
			l[cell].D = append(m.D, 0, 0)[:len(m.D)]
		}
		o[at] = append(l, api.Matrix{Level: -1})[:len(l)]
	}
	return g, n, o
}

// Numbers are all of a graph, a nest and an overlay, those in spare room too.
func Numbers(g api.Graph, n api.Nest, o [][]api.Matrix) [][]uint64 {
	var all [][]uint64
	add := func(l ...int) {
		var numbers []uint64
		for _, x := range l[:cap(l)] {
			numbers = append(numbers, uint64(x))
		}
		all = append(all, numbers)
	}
	for _, a := range g.Arcs[:cap(g.Arcs)] {
		add(a.From, a.To, int(a.Weight))
	}
	add(n.Bounds...)
	for _, l := range n.Cells[:cap(n.Cells)] {
		add(l...)
	}
	for _, l := range o[:cap(o)] {
		for _, m := range l[:cap(l)] {
			add(m.Level, m.Cell, m.Epoch, len(m.D))
			for _, d := range m.D[:cap(m.D)] {
				all = append(all, []uint64{uint64(d)})
			}
		}
	}
	return all
}
