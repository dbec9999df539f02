package heap

// member is a number with its key.
type member[K any] struct {
	id  int
	key K
}

// queue is a heap of any kind of key: no member stands ahead of the one above it, whose place is (at - 1) / 2.
type queue[K any] struct {
	members []member[K]
	places  []int // of each number its place in members and 1 more; 0, if it is not there
	ahead   func(a, b member[K]) bool
}

func emptyQueue[K any](n int, ahead func(a, b member[K]) bool) queue[K] {
	return queue[K]{places: make([]int, n), ahead: ahead}
}

func (q *queue[K]) may(id int) bool { return id >= 0 && id < len(q.places) }

func (q *queue[K]) find(id int) (at int, there bool) {
	at = q.places[id] - 1
	return at, at >= 0
}

func (q *queue[K]) put(at int, m member[K]) {
	q.members[at] = m
	q.places[m.id] = at + 1
}

// lower holds m against the member of the same number, so that the key alone says which one is ahead.
func (q *queue[K]) lower(m member[K]) bool {
	at, there := q.find(m.id)
	if there && !q.ahead(m, q.members[at]) {
		return false
	}
	if !there {
		at = len(q.members)
		q.members = append(q.members, m)
	}
	q.put(q.up(at, m), m)
	return true
}

// take fills the gap with the last member, which may come from another branch: its place can lie below the gap or above it.
func (q *queue[K]) take(at int) {
	end := len(q.members) - 1
	gone, last := q.members[at], q.members[end]
	q.members[end] = member[K]{} // a key that is out is not kept in the spare room
	q.members = q.members[:end]
	q.places[gone.id] = 0
	if at < end {
		q.put(q.up(q.down(at, last), last), last)
	}
}

// up moves a gap to where m may stand below what is above it.
func (q *queue[K]) up(gap int, m member[K]) int {
	for gap > 0 {
		above := (gap - 1) / 2
		if !q.ahead(m, q.members[above]) {
			break
		}
		q.put(gap, q.members[above])
		gap = above
	}
	return gap
}

// down moves a gap to where m may stand above what is below it.
func (q *queue[K]) down(gap int, m member[K]) int {
	for {
		below := q.firstBelow(gap)
		if below == len(q.members) || !q.ahead(q.members[below], m) {
			return gap
		}
		q.put(gap, q.members[below])
		gap = below
	}
}

// firstBelow answers which of the two below stands ahead of the other; the members' number, if there is none.
func (q *queue[K]) firstBelow(at int) int {
	left, right := 2*at+1, 2*at+2
	if left >= len(q.members) {
		return len(q.members)
	}
	if right < len(q.members) && q.ahead(q.members[right], q.members[left]) {
		return right
	}
	return left
}
