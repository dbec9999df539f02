package cell

import "flyover/api"

// labels are of each vertex its cell, at a level of a nest that is right.
type labels []int

func (l labels) hold(cell int, a api.Arc) bool { return l[a.From] == cell && l[a.To] == cell }

func (l labels) part(a api.Arc) bool { return l[a.From] != l[a.To] }

// crossed marks both ends of the arcs between cells: whichever way an arc goes, either end has a neighbour outside of its cell.
func (l labels) crossed(g api.Graph) []bool {
	ends := make([]bool, g.N)
	for _, a := range g.Arcs {
		if l.part(a) {
			ends[a.From], ends[a.To] = true, true
		}
	}
	return ends
}

// touched has room for as many cells as vertices: there are never more.
func (l labels) touched(g api.Graph, arcs []int) []bool {
	cells := make([]bool, g.N)
	for _, id := range arcs {
		if a := g.Arcs[id]; !l.part(a) {
			cells[l[a.From]] = true
		}
	}
	return cells
}

// chosen answers its list cut at the end, without spare room: two that each put something behind it would else write into the same place.
func chosen(many int, wanted func(number int) bool) []int {
	var list []int
	for number := range many {
		if wanted(number) {
			list = append(list, number)
		}
	}
	return list[:len(list):len(list)]
}

func chosenArcs(g api.Graph, wanted func(a api.Arc) bool) []int {
	return chosen(len(g.Arcs), func(id int) bool { return wanted(g.Arcs[id]) })
}
