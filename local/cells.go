package local

import (
	"slices"

	"flyover/api"
)

// move is of the vertex v to the label l; its gain is 0 where none is open.
type move struct{ v, l, gain int }

// cells are labels between which vertices move.
//
// A label keeps its number while vertices move, so that what is counted of it stays true. Tidied labels stand in the order of their least vertices: so least tells which of two would be the lesser one if they were tidied each time, and it does to tidy them once, in the end.
type cells struct {
	bound                int
	labels, sizes, least []int
	beside               [][]int
	// pairs tells of each vertex how many pairs it has with the vertices of a label.
	pairs []map[int]int
	// first tells of each vertex the one of its moves that comes ahead of its others.
	first []move
}

// counted needs labels that are tidy: the next one is seen first at its least vertex.
func counted(all []api.Pair, labels []int) *cells {
	n := len(labels)
	c := &cells{labels: slices.Clone(labels), beside: make([][]int, n), pairs: make([]map[int]int, n), first: make([]move, n)}
	for v, label := range labels {
		if label == len(c.sizes) {
			c.sizes, c.least = append(c.sizes, 0), append(c.least, v)
		}
		c.sizes[label]++
		c.pairs[v] = map[int]int{}
	}
	for _, pair := range all {
		c.count(pair.A, pair.B)
		c.count(pair.B, pair.A)
	}
	return c
}

func (c *cells) count(v, neighbour int) {
	c.beside[v] = append(c.beside[v], neighbour)
	c.pairs[v][c.labels[neighbour]]++
}

func (c *cells) gain(v, l int) int { return c.pairs[v][l] - c.pairs[v][c.labels[v]] }

func (c *cells) setBound(bound int) {
	c.bound = bound
	for v := range c.first {
		c.first[v] = c.firstOf(v)
	}
}

// firstOf need not leave out v's own label: its gain is 0.
func (c *cells) firstOf(v int) move {
	first, own := move{v: v}, c.pairs[v][c.labels[v]]
	for l, many := range c.pairs[v] {
		m := move{v: v, l: l, gain: many - own}
		if c.sizes[l] < c.bound && c.ahead(m, first) {
			first = m
		}
	}
	return first
}

// ahead holds two moves of one vertex against each other.
func (c *cells) ahead(m, other move) bool {
	if m.gain != other.gain {
		return m.gain > other.gain
	}
	return c.least[m.l] < c.least[other.l]
}

func (c *cells) next() (move, bool) {
	var next move
	for _, m := range c.first {
		if m.gain > next.gain {
			next = m
		}
	}
	return next, next.gain > 0
}

func (c *cells) carryOut(m move) {
	from := c.labels[m.v]
	c.labels[m.v] = m.l
	c.sizes[from]--
	c.sizes[m.l]++
	c.least[from] = slices.Index(c.labels, from)
	c.least[m.l] = min(c.least[m.l], m.v)
	for _, w := range c.beside[m.v] {
		c.pairs[w][m.l]++
		c.pairs[w][from]--
	}
	c.lookAgain(from, m.l)
}

// lookAgain passes over the vertices that have no neighbour in either label, and had none: what moved, who has room now and which label is the lesser one is nothing to them.
func (c *cells) lookAgain(from, to int) {
	for v, pairs := range c.pairs {
		if pairs[from] > 0 || pairs[to] > 0 {
			c.first[v] = c.firstOf(v)
		}
	}
}

func tidied(labels []int) []int {
	tidy, numbers := make([]int, len(labels)), map[int]int{}
	for v, label := range labels {
		number, seen := numbers[label]
		if !seen {
			number = len(numbers)
			numbers[label] = number
		}
		tidy[v] = number
	}
	return tidy
}
