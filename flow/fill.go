package flow

import (
	"math"
	"math/bits"

	"flyover/api"
)

// none stands for a step or a rank where there is none.
const none = -1

// The places of both directions in a line's arrays.
const (
	ahead = iota
	back
)

// line is an edge as the searches see it. What flows over it may also be taken back, so it has two directions, and what there is of each stands in an array, by its place.
type line struct {
	ends [2]int    // where the direction begins; it ends where the other one begins
	room [2]uint32 // how much more may flow in this direction: back, just as much as flows ahead
	next [2]int    // the next step out of the node where it begins
}

// pipes is a network with what flows through it. A step is one direction of a line: twice the edge's id, and the direction's place.
type pipes struct {
	lines []line
	first []int // of each node the first step out of it
	rank  []int // by how many steps it is reached from s
	open  []int // the first step out of it that may still lead to t
	queue []int
	path  []int
	grain uint32 // steps with less room than that are not taken yet
}

func lay(n api.Network) *pipes {
	f := &pipes{
		lines: make([]line, len(n.Edges)),
		first: make([]int, n.N),
		rank:  make([]int, n.N),
		open:  make([]int, n.N),
		queue: make([]int, 0, n.N),
		path:  make([]int, 0, n.N),
	}
	setAll(f.first, none)
	for id, edge := range n.Edges {
		l := line{ends: [2]int{edge.From, edge.To}, room: [2]uint32{ahead: edge.Cap}}
		for way, node := range l.ends {
			l.next[way] = f.first[node]
			f.first[node] = 2*id + way
		}
		f.lines[id] = l
	}
	return f
}

func setAll(l []int, to int) {
	for i := range l {
		l[i] = to
	}
}

func (f *pipes) from(step int) int { return f.lines[step>>1].ends[step&1] }

func (f *pipes) to(step int) int { return f.from(step ^ 1) }

func (f *pipes) room(step int) uint32 { return f.lines[step>>1].room[step&1] }

func (f *pipes) next(step int) int { return f.lines[step>>1].next[step&1] }

func (f *pipes) reached(node int) bool { return f.rank[node] != none }

// fill lets as much flow from s to t as can, over the shortest ways first: so they become longer from round to round, and the rounds of one grain are fewer than the nodes. Wide ways come ahead of narrow ones, or a wide one could be filled by very many narrow ones, again and again.
func (f *pipes) fill(s, t int) uint64 {
	total := uint64(0)
	for f.grain = f.coarsest(); f.grain > 0; f.grain /= 2 {
		for f.search(s, t) {
			copy(f.open, f.first)
			total += f.block(s, t)
		}
	}
	return total
}

// coarsest answers the greatest power of two that fits through some edge; 1 if none does, since the last search is always that of the grain 1.
func (f *pipes) coarsest() uint32 {
	widest := uint32(1)
	for _, l := range f.lines {
		widest = max(widest, l.room[ahead])
	}
	return 1 << (bits.Len32(widest) - 1)
}

// search ranks the nodes, and answers whether it came to t. If it did not, it came to all that can be reached.
func (f *pipes) search(s, t int) bool {
	setAll(f.rank, none)
	f.rank[s] = 0
	queue := append(f.queue[:0], s)
nodes:
	for i := 0; i < len(queue); i++ {
		node := queue[i]
		for step := f.first[node]; step != none; step = f.next(step) {
			to := f.to(step)
			if f.room(step) < f.grain || f.reached(to) {
				continue
			}
			f.rank[to] = f.rank[node] + 1
			if to == t {
				break nodes
			}
			queue = append(queue, to)
		}
	}
	return f.reached(t)
}

// block fills ways whose rank rises by one at each step, until each of them has a step with too little room.
func (f *pipes) block(s, t int) uint64 {
	total, path := uint64(0), f.path[:0]
ways:
	for {
		node := s
		if len(path) > 0 {
			node = f.to(path[len(path)-1])
		}
		if node == t {
			amount := f.least(path)
			total += uint64(amount)
			path = path[:f.push(path, amount)]
			continue
		}
		for ; f.open[node] != none; f.open[node] = f.next(f.open[node]) {
			step := f.open[node]
			if f.room(step) >= f.grain && f.rank[f.to(step)] == f.rank[node]+1 {
				path = append(path, step)
				continue ways
			}
		}
		if len(path) == 0 {
			break ways
		}
		// Nothing goes on from here, nor will in this round: the step that led here is done with.
		last := path[len(path)-1]
		path = path[:len(path)-1]
		f.open[f.from(last)] = f.next(last)
	}
	return total
}

func (f *pipes) least(path []int) uint32 {
	least := uint32(math.MaxUint32)
	for _, step := range path {
		least = min(least, f.room(step))
	}
	return least
}

// push lets this much more flow along the path, and answers how many steps stand ahead of the first one with too little room left.
func (f *pipes) push(path []int, amount uint32) int {
	kept := len(path)
	for i := len(path) - 1; i >= 0; i-- {
		room, way := &f.lines[path[i]>>1].room, path[i]&1
		room[way] -= amount
		room[1-way] += amount
		if room[way] < f.grain {
			kept = i
		}
	}
	return kept
}
