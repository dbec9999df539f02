package heap

import (
	"math"
	"testing"

	"flyover/api"
)

// plain is a second reading of the chapter: it goes through all numbers anew at each call.
type plain struct {
	keys []api.Dist
	in   []bool
}

func newPlain(n int) *plain { return &plain{keys: make([]api.Dist, n), in: make([]bool, n)} }

func (p *plain) is(id int) bool { return 0 <= id && id < len(p.keys) }

func (p *plain) Lower(id int, key api.Dist) (bool, api.Errno) {
	if !p.is(id) {
		return false, api.ErrNone
	}
	if p.in[id] && p.keys[id] <= key {
		return false, api.OK
	}
	p.keys[id], p.in[id] = key, true
	return true, api.OK
}

func (p *plain) Pop() (int, api.Dist, api.Errno) {
	id, key, e := p.Top()
	if e == api.OK {
		p.Drop(id)
	}
	return id, key, e
}

func (p *plain) Top() (int, api.Dist, api.Errno) {
	best := -1
	for id, in := range p.in {
		if in && (best < 0 || p.keys[id] < p.keys[best]) {
			best = id
		}
	}
	if best < 0 {
		return 0, 0, api.ErrNone
	}
	return best, p.keys[best], api.OK
}

func (p *plain) Drop(id int) (bool, api.Errno) {
	if !p.is(id) {
		return false, api.ErrNone
	}
	there := p.in[id]
	p.keys[id], p.in[id] = 0, false
	return there, api.OK
}

func (p *plain) Key(id int) (api.Dist, bool, api.Errno) {
	if !p.is(id) {
		return 0, false, api.ErrNone
	}
	return p.keys[id], p.in[id], api.OK
}

func (p *plain) Len() int {
	many := 0
	for _, in := range p.in {
		if in {
			many++
		}
	}
	return many
}

// The kinds of calls that change a heap.
const (
	lowers = iota
	pops
	drops
)

type call struct {
	kind, id int
	key      api.Dist
}

// both is a heap and what the chapter says of it, called side by side.
type both struct {
	t     *testing.T
	h     *Heap
	p     *plain
	calls []call
}

func made(t *testing.T, n int) *Heap {
	t.Helper()
	h, e := New(n)
	if e != api.OK || h == nil {
		t.Fatalf("New(%d): %v, %v", n, h, e)
	}
	return h
}

func newBoth(t *testing.T, n int) *both {
	t.Helper()
	return &both{t: t, h: made(t, n), p: newPlain(n)}
}

func (b *both) do(c call) {
	b.t.Helper()
	b.calls = append(b.calls, c)
	switch c.kind {
	case lowers:
		ok, e := b.h.Lower(c.id, c.key)
		if want, e2 := b.p.Lower(c.id, c.key); ok != want || e != e2 {
			b.t.Fatalf("%v: Lower: %v, %v, want %v, %v", b.told(), ok, e, want, e2)
		}
	case pops:
		id, key, e := b.h.Pop()
		if id2, key2, e2 := b.p.Pop(); id != id2 || key != key2 || e != e2 {
			b.t.Fatalf("%v: Pop: %d, %d, %v, want %d, %d, %v", b.told(), id, key, e, id2, key2, e2)
		}
	case drops:
		ok, e := b.h.Drop(c.id)
		if want, e2 := b.p.Drop(c.id); ok != want || e != e2 {
			b.t.Fatalf("%v: Drop: %v, %v, want %v, %v", b.told(), ok, e, want, e2)
		}
	}
	b.first()
}

// told is the last of the calls, since all of them may be too many to read.
func (b *both) told() []call { return b.calls[max(0, len(b.calls)-20):] }

// first holds what stands ahead of all against what should.
func (b *both) first() {
	b.t.Helper()
	id, key, e := b.h.Top()
	if id2, key2, e2 := b.p.Top(); id != id2 || key != key2 || e != e2 {
		b.t.Fatalf("%v: Top: %d, %d, %v, want %d, %d, %v", b.told(), id, key, e, id2, key2, e2)
	}
}

// look holds all that can be told of the heap, without changing it, against what should be.
func (b *both) look() {
	b.t.Helper()
	b.first()
	if many, want := b.h.Len(), b.p.Len(); many != want {
		b.t.Fatalf("%v: Len: %d, want %d", b.told(), many, want)
	}
	for _, id := range append(strange(len(b.p.keys)), rising(len(b.p.keys))...) {
		key, there, e := b.h.Key(id)
		if key2, there2, e2 := b.p.Key(id); key != key2 || there != there2 || e != e2 {
			b.t.Fatalf("%v: Key(%d): %d, %v, %v, want %d, %v, %v", b.told(), id, key, there, e, key2, there2, e2)
		}
	}
	b.first()
}

// drain takes all out, and asks once more.
func (b *both) drain() {
	b.t.Helper()
	for range b.p.Len() + 1 {
		b.do(call{kind: pops})
	}
	b.look()
}

func rising(n int) []int {
	l := make([]int, n)
	for i := range l {
		l[i] = i
	}
	return l
}

// strange are numbers that a heap of n has not.
func strange(n int) []int {
	return []int{math.MinInt, math.MinInt32, -n - 1, -2, -1, n, n + 1, 2*n + 1, api.MaxItems, api.MaxItems + 1, 1 << 32, math.MaxInt}
}

// noise answers a function that draws numbers below a bound, the same ones each time.
func noise() func(bound int) int {
	state := uint64(1)
	return func(bound int) int {
		state = state*6364136223846793005 + 1442695040888963407
		return int(state>>33) % bound
	}
}

// orders goes through all orders of the numbers 0 to n - 1.
func orders(n int, do func(order []int)) {
	order := rising(n)
	var fix func(at int)
	fix = func(at int) {
		if at == n {
			do(order)
			return
		}
		for i := at; i < n; i++ {
			order[at], order[i] = order[i], order[at]
			fix(at + 1)
			order[at], order[i] = order[i], order[at]
		}
	}
	fix(0)
}
