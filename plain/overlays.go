package plain

import (
	"slices"

	"flyover/api"
)

// Copied shares no memory with o.
func Copied(o [][]api.Matrix) [][]api.Matrix {
	var all [][]api.Matrix
	for _, l := range o {
		l = slices.Clone(l)
		for at := range l {
			l[at].D = slices.Clone(l[at].D)
		}
		all = append(all, l)
	}
	return all
}

// Shaken is an overlay of drawn epochs and of distances that are mostly not right.
func Shaken(draw func(int) int, o [][]api.Matrix, epoch int) [][]api.Matrix {
	all := Copied(o)
	for _, l := range all {
		for at := range l {
			l[at].Epoch = draw(epoch + 1)
			for i := range l[at].D {
				if draw(3) > 0 {
					l[at].D[i] = Dist(draw)
				}
			}
		}
	}
	return all
}

// WrongOverlays are none of a nest of three levels, each by one thing.
func WrongOverlays(g api.Graph, n api.Nest) [][][]api.Matrix {
	right := Overlay(g, n, 3)
	wrong := [][][]api.Matrix{nil, {}, {nil}, make([][]api.Matrix, len(right)), right[1:], right[:len(right)-1], append(slices.Clone(right), nil), append(slices.Clone(right), right[0]), make([][]api.Matrix, api.MaxItems+1)}
	// Spare room is no part of a list, even if it would make it right.
	short := Copied(right)
	short[0] = short[0][:len(short[0])-1]
	wrong = append(wrong, short)
	for at, l := range right {
		for _, list := range [][]api.Matrix{nil, l[1:], append(slices.Clone(l), l[0]), append(slices.Clone(l), api.Matrix{Level: at + 1, Cell: len(l)}), slices.Repeat(l, api.MaxItems)} {
			o := slices.Clone(right)
			o[at] = list
			wrong = append(wrong, o)
		}
		if len(l) > 1 {
			o := Copied(right)
			o[at][0], o[at][1] = o[at][1], o[at][0]
			wrong = append(wrong, o)
		}
		for cell, m := range l {
			for _, other := range wrongMatrices(m) {
				o := Copied(right)
				o[at][cell] = other
				wrong = append(wrong, o)
			}
		}
	}
	return append(wrong, [][]api.Matrix{right[0], right[0], right[0]}, [][]api.Matrix{right[2], right[1], right[0]})
}

// wrongMatrices may not stand in a matrix's place, whatever else is right about them.
func wrongMatrices(m api.Matrix) []api.Matrix {
	var wrong []api.Matrix
	for _, epoch := range WrongEpochs() {
		wrong = append(wrong, api.Matrix{Level: m.Level, Cell: m.Cell, Epoch: epoch, D: m.D})
	}
	for _, number := range append(WrongNumbers(), 0, 1, 2, 3, 4, 5, 6) {
		if number != m.Level {
			wrong = append(wrong, api.Matrix{Level: number, Cell: m.Cell, D: m.D})
		}
		if number != m.Cell {
			wrong = append(wrong, api.Matrix{Level: m.Level, Cell: number, D: m.D})
		}
	}
	for _, many := range []int{0, 1, 2, 3, 4, 5, 8, 9, 10, 16, api.MaxItems + 1} {
		if many != len(m.D) {
			wrong = append(wrong, api.Matrix{Level: m.Level, Cell: m.Cell, D: make([]api.Dist, many, many+20)})
		}
	}
	return wrong
}
