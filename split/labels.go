package split

import (
	"flyover/api"
	"flyover/graph"
	"flyover/grow"
)

// sizesOf finds in passing whether labels are right: each must have been seen ahead, or be the next one. It answers ErrLabel for any other number of labels than N, however great: more than api.MaxItems are never N.
func sizesOf(g api.Graph, labels []int) ([]int, api.Errno) {
	if len(labels) != g.N {
		return nil, api.ErrLabel
	}
	var sizes []int
	for _, label := range labels {
		if label < 0 || label > len(sizes) {
			return nil, api.ErrLabel
		}
		if label == len(sizes) {
			sizes = append(sizes, 0)
		}
		sizes[label]++
	}
	return sizes, api.OK
}

// ordered takes the order within the label alone: by ways through other labels what lies near would be another thing.
func ordered(g api.Graph, labels []int, label int) ([]int, api.Errno) {
	keep := make([]bool, g.N)
	for v := range keep {
		keep[v] = labels[v] == label
	}
	h, vertices, _, e := graph.Induced(g, keep)
	if e != api.OK {
		return nil, e
	}
	order, e := grow.Order(h)
	if e != api.OK {
		return nil, e
	}
	for at, v := range order {
		order[at] = vertices[v]
	}
	return order, api.OK
}

func tidied(labels []int) []int {
	tidy, numbers := make([]int, len(labels)), map[int]int{}
	for v, label := range labels {
		number, seen := numbers[label]
		if !seen {
			number = len(numbers)
			numbers[label] = number
		}
		tidy[v] = number
	}
	return tidy
}
