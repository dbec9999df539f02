package heap

import (
	"cmp"
	"math"
	"slices"
	"testing"

	"flyover/api"
)

func wantLower(t *testing.T, h *Heap, id int, key api.Dist, want bool) {
	t.Helper()
	if ok, e := h.Lower(id, key); ok != want || e != api.OK {
		t.Errorf("Lower(%d, %d): %v, %v, want %v", id, key, ok, e, want)
	}
}

func wantPop(t *testing.T, h *Heap, id int, key api.Dist) {
	t.Helper()
	wantTop(t, h, id, key)
	if got, k, e := h.Pop(); got != id || k != key || e != api.OK {
		t.Errorf("Pop: %d, %d, %v, want %d, %d", got, k, e, id, key)
	}
}

func wantTop(t *testing.T, h *Heap, id int, key api.Dist) {
	t.Helper()
	if got, k, e := h.Top(); got != id || k != key || e != api.OK {
		t.Errorf("Top: %d, %d, %v, want %d, %d", got, k, e, id, key)
	}
}

func wantDrop(t *testing.T, h *Heap, id int, want bool) {
	t.Helper()
	if ok, e := h.Drop(id); ok != want || e != api.OK {
		t.Errorf("Drop(%d): %v, %v, want %v", id, ok, e, want)
	}
}

func wantKey(t *testing.T, h *Heap, id int, key api.Dist, there bool) {
	t.Helper()
	if k, in, e := h.Key(id); k != key || in != there || e != api.OK {
		t.Errorf("Key(%d): %d, %v, %v, want %d, %v", id, k, in, e, key, there)
	}
}

func wantLen(t *testing.T, h *Heap, want int) {
	t.Helper()
	if many := h.Len(); many != want {
		t.Errorf("Len: %d, want %d", many, want)
	}
}

// wantEmpty asks that nothing is in the heap, and that nothing is told beside the errors (R5).
func wantEmpty(t *testing.T, h *Heap) {
	t.Helper()
	wantLen(t, h, 0)
	if id, key, e := h.Top(); id != 0 || key != 0 || e != api.ErrNone {
		t.Errorf("Top of an empty heap: %d, %d, %v", id, key, e)
	}
	if id, key, e := h.Pop(); id != 0 || key != 0 || e != api.ErrNone {
		t.Errorf("Pop of an empty heap: %d, %d, %v", id, key, e)
	}
	wantLen(t, h, 0)
}

// wantRefused asks that all calls refuse the numbers that a heap of n has not, and tell nothing beside (R5).
func wantRefused(t *testing.T, h *Heap, n int) {
	t.Helper()
	for _, id := range strange(n) {
		if id >= 0 && id < n {
			continue
		}
		for _, key := range []api.Dist{0, 1, 7, api.Inf} {
			if ok, e := h.Lower(id, key); ok || e != api.ErrNone {
				t.Errorf("Lower(%d, %d) of %d numbers: %v, %v", id, key, n, ok, e)
			}
		}
		if ok, e := h.Drop(id); ok || e != api.ErrNone {
			t.Errorf("Drop(%d) of %d numbers: %v, %v", id, n, ok, e)
		}
		if key, there, e := h.Key(id); key != 0 || there || e != api.ErrNone {
			t.Errorf("Key(%d) of %d numbers: %d, %v, %v", id, n, key, there, e)
		}
	}
}

// Promises 4.1, 4.2: the chapter's examples.
func TestExamples(t *testing.T) {
	h := made(t, 5)
	wantLower(t, h, 3, 7, true)
	wantLower(t, h, 1, 7, true)
	wantLower(t, h, 3, 9, false)
	wantLower(t, h, 3, 2, true)
	wantPop(t, h, 3, 2)
	wantTop(t, h, 1, 7)
	wantLen(t, h, 1)
	wantDrop(t, h, 1, true)
	wantDrop(t, h, 1, false)
	wantEmpty(t, h)
	wantKey(t, h, 4, 0, false)
	if key, there, e := h.Key(5); key != 0 || there || e != api.ErrNone {
		t.Errorf("Key(5): %d, %v, %v", key, there, e)
	}
}

// Promise 4.1: New of all sizes that may be: an empty heap of just these numbers.
func TestNew(t *testing.T) {
	for _, n := range []int{0, 1, 2, 3, 100, api.MaxItems - 1, api.MaxItems} {
		h := made(t, n)
		wantEmpty(t, h)
		wantRefused(t, h, n)
		for id := range n {
			wantKey(t, h, id, 0, false)
			wantDrop(t, h, id, false)
		}
		wantEmpty(t, h)
		for id := range n {
			wantLower(t, h, id, api.Dist(n-id), true)
		}
		wantLen(t, h, n)
		wantRefused(t, h, n)
		for id := n - 1; id >= 0; id-- {
			wantPop(t, h, id, api.Dist(n-id))
		}
		wantEmpty(t, h)
	}
}

// Promise 4.1: New of sizes that may not be, and no heap beside the error (R5).
func TestNewRange(t *testing.T) {
	for _, n := range []int{math.MinInt, math.MinInt32, -api.MaxItems, -2, -1, api.MaxItems + 1, api.MaxItems + 2, 1 << 32, math.MaxInt} {
		if h, e := New(n); h != nil || e != api.ErrRange {
			t.Errorf("New(%d): %v, %v", n, h, e)
		}
	}
}

// Promise 4.1: a key that is lesser, the same, greater, from 0 to the greatest, alone and among others.
func TestLower(t *testing.T) {
	keys := []api.Dist{0, 1, 2, 7, 1 << 31, 1<<32 - 1, 1 << 32, 1<<63 - 1, 1 << 63, api.Inf - 1, api.Inf}
	for _, others := range []int{0, 1, 6} {
		for _, before := range keys {
			for _, key := range keys {
				b := newBoth(t, 8)
				for id := range others {
					b.do(call{lowers, 7 - id, api.Dist(id) << 62})
				}
				wantLower(t, b.h, 1, before, true)
				wantKey(t, b.h, 1, before, true)
				wantLower(t, b.h, 1, key, key < before)
				wantKey(t, b.h, 1, min(key, before), true)
				wantLen(t, b.h, others+1)
				b.p.Lower(1, min(key, before))
				b.look()
				b.drain()
			}
		}
	}
}

// Promise 4.1: lowered again and again, down to 0, a number comes to the front.
func TestLowerStep(t *testing.T) {
	h := made(t, 10)
	for id := range 10 {
		wantLower(t, h, id, 50, true)
	}
	for key := api.Dist(49); ; key-- {
		wantLower(t, h, 9, key, true)
		wantLower(t, h, 9, key, false)
		wantLower(t, h, 9, key+1, false)
		wantTop(t, h, 9, key)
		wantKey(t, h, 9, key, true)
		wantLen(t, h, 10)
		if key == 0 {
			break
		}
	}
	wantPop(t, h, 9, 0)
	wantPop(t, h, 0, 50)
}

// Promises 4.2, 4.3: the same key: by numbers, in whatever order they were put in, also with the keys 0 and the greatest.
func TestSameKey(t *testing.T) {
	for _, key := range []api.Dist{0, 1, api.Inf - 1, api.Inf} {
		orders(6, func(order []int) {
			h := made(t, 6)
			for _, id := range order {
				wantLower(t, h, id, key, true)
			}
			for id := range 6 {
				wantPop(t, h, id, key)
			}
			wantEmpty(t, h)
		})
	}
}

// Promise 4.2: a number that is dropped is gone, and may come again, with a greater key too.
func TestDropAndAgain(t *testing.T) {
	h := made(t, 4)
	for _, key := range []api.Dist{5, 9, 9, 0, api.Inf, 3} {
		wantLower(t, h, 2, key, true)
		wantLower(t, h, 3, 6, true)
		wantKey(t, h, 2, key, true)
		wantDrop(t, h, 2, true)
		wantKey(t, h, 2, 0, false)
		wantLen(t, h, 1)
		wantTop(t, h, 3, 6)
		wantDrop(t, h, 2, false)
		wantDrop(t, h, 1, false)
		wantLen(t, h, 1)
		wantDrop(t, h, 3, true)
		wantEmpty(t, h)
	}
}

// Promise 4.2: a number that came out by Pop may come again, with a greater key too.
func TestPopAndAgain(t *testing.T) {
	h := made(t, 2)
	for _, key := range []api.Dist{5, 9, 9, 0, api.Inf, 3} {
		wantLower(t, h, 1, key, true)
		wantPop(t, h, 1, key)
		wantKey(t, h, 1, 0, false)
		wantDrop(t, h, 1, false)
		wantEmpty(t, h)
	}
}

// Promises 4.1 to 4.3: a heap that was emptied is as a new one, however it was emptied.
func TestEmptiedAndFilled(t *testing.T) {
	const n = 33
	draw := noise()
	b := newBoth(t, n)
	for round := range 60 {
		for range n {
			b.do(call{lowers, draw(n), api.Dist(draw(20))})
		}
		b.look()
		for id := 0; round%3 == 0 && id < n; id++ {
			b.do(call{kind: drops, id: id})
		}
		for id := n - 1; round%3 == 1 && id >= 0; id-- {
			b.do(call{kind: drops, id: id})
		}
		b.drain()
		wantEmpty(t, b.h)
	}
}

// Promise 4.2: Top, Key and Len change nothing, however often they are called.
func TestLookingChangesNothing(t *testing.T) {
	draw := noise()
	looked, other := made(t, 20), made(t, 20)
	for range 15 {
		id, key := draw(20), api.Dist(draw(5))
		looked.Lower(id, key)
		other.Lower(id, key)
	}
	for other.Len() > 0 {
		for range 3 {
			id, key, _ := looked.Top()
			if k, there, e := looked.Key(id); k != key || !there || e != api.OK {
				t.Errorf("Top: %d, %d, but Key: %d, %v, %v", id, key, k, there, e)
			}
			for id := range 20 {
				looked.Key(id)
			}
			wantLen(t, looked, other.Len())
		}
		id, key, _ := other.Pop()
		wantPop(t, looked, id, key)
	}
	wantEmpty(t, looked)
}

// R5: a call that answers an error has changed nothing.
func TestRefusedChangesNothing(t *testing.T) {
	draw := noise()
	for n := range 12 {
		b := newBoth(t, n)
		wantRefused(t, b.h, n)
		wantEmpty(t, b.h)
		b.look()
		for range 3 * n {
			b.do(call{lowers, draw(n), api.Dist(draw(6))})
			wantRefused(t, b.h, n)
			b.look()
		}
		for b.p.Len() > 0 {
			b.do(call{kind: pops})
			wantRefused(t, b.h, n)
			b.look()
		}
		b.drain()
	}
}

// R4, R7: two heaps beside one another do not tell of each other; the same calls tell the same.
func TestTwoHeaps(t *testing.T) {
	draw := noise()
	a, b, same := newBoth(t, 9), newBoth(t, 14), newBoth(t, 9)
	for range 2000 {
		x := call{draw(3), draw(9), api.Dist(draw(8))}
		a.do(x)
		b.look()
		b.do(call{draw(3), draw(14), api.Dist(draw(8))})
		a.look()
		same.do(x)
	}
	if a.h.Len() != same.h.Len() {
		t.Error("the same calls, but", a.h.Len(), "and", same.h.Len())
	}
	a.drain()
	b.look()
	b.drain()
	same.drain()
}

// everyCall is each call that changes a heap of n, with these keys.
func everyCall(n int, keys []api.Dist) []call {
	l := []call{{kind: pops}}
	for id := range n {
		l = append(l, call{kind: drops, id: id})
		for _, key := range keys {
			l = append(l, call{lowers, id, key})
		}
	}
	return l
}

// Promises 4.1 to 4.3: all rows of a few calls, of small heaps.
func TestAllRows(t *testing.T) {
	for _, x := range []struct {
		n, most int
		keys    []api.Dist
	}{
		{0, 3, nil},
		{1, 6, []api.Dist{0, 1, api.Inf}},
		{2, 5, []api.Dist{0, 1, api.Inf}},
		{3, 4, []api.Dist{0, 1, api.Inf}},
		{4, 4, []api.Dist{0, 1}},
	} {
		choices := everyCall(x.n, x.keys)
		var grow func(row []call)
		grow = func(row []call) {
			if len(row) < x.most {
				for _, c := range choices {
					grow(append(row[:len(row):len(row)], c))
				}
				return
			}
			b := newBoth(t, x.n)
			for _, c := range row {
				b.do(c)
				b.look()
			}
			b.drain()
		}
		grow(nil)
	}
}

// Promises 4.1 to 4.3: seven numbers in all orders, each one lowered or dropped: what fills a gap may belong below it or above it.
func TestAllOrders(t *testing.T) {
	orders(7, func(order []int) {
		for id := range 7 {
			for _, c := range []call{{kind: drops, id: id}, {lowers, id, 1}, {lowers, id, 5}, {lowers, id, 8}} {
				b := newBoth(t, 7)
				for at, put := range order {
					b.do(call{lowers, put, api.Dist(2*at%9 + 1)})
				}
				b.do(c)
				b.drain()
			}
		}
	})
}

// Promises 4.1 to 4.3: drawn calls in any order, with few keys and with many, of heaps that stay small or become full.
func TestDrawn(t *testing.T) {
	draw := noise()
	for _, n := range []int{1, 2, 3, 5, 8, 13, 31, 32, 33, 100, 257} {
		for _, keys := range []int{1, 2, 10, 1 << 30} {
			for _, lowersOfTen := range []int{4, 6, 9} {
				b := newBoth(t, n)
				for step := range 400 {
					c := call{lowers, draw(n), api.Dist(draw(keys)) << (step % 35)}
					if draw(10) >= lowersOfTen {
						c.kind = pops + draw(2)
					}
					b.do(c)
					if step%16 == 0 {
						b.look()
					}
				}
				b.look()
				b.drain()
			}
		}
	}
}

// Promise 4.3: the greatest heap, filled in several orders and lowered, comes out in order.
func TestOrder(t *testing.T) {
	const n = api.MaxItems
	draw := noise()
	rows := map[string]func(id int) api.Dist{
		"rising":   func(id int) api.Dist { return api.Dist(id) },
		"falling":  func(id int) api.Dist { return api.Inf - api.Dist(id) },
		"the same": func(int) api.Dist { return 7 },
		"few":      func(int) api.Dist { return api.Dist(draw(9)) },
		"many":     func(int) api.Dist { return api.Dist(draw(1<<30)) << draw(35) },
	}
	for name, key := range rows {
		h := made(t, n)
		want := make([]member[api.Dist], n)
		for i := range want {
			id := i * 5 % n
			want[id] = member[api.Dist]{id, key(id)}
			wantLower(t, h, id, want[id].key, true)
		}
		for range n / 2 {
			id, lower := draw(n), key(draw(n))
			wantLower(t, h, id, lower, lower < want[id].key)
			want[id].key = min(want[id].key, lower)
		}
		wantLen(t, h, n)
		slices.SortFunc(want, func(a, b member[api.Dist]) int {
			return cmp.Or(cmp.Compare(a.key, b.key), cmp.Compare(a.id, b.id))
		})
		for at, m := range want {
			id, k, e := h.Pop()
			if id != m.id || k != m.key || e != api.OK || h.Len() != n-1-at {
				t.Fatalf("%s: %d. out: %d, %d, %v, and %d left, want %v", name, at, id, k, e, h.Len(), m)
			}
		}
		wantEmpty(t, h)
	}
}

// Promise 4.3: what is dropped out of the greatest heap does not come, the rest comes in order.
func TestOrderOfRest(t *testing.T) {
	const n = api.MaxItems
	h := made(t, n)
	for id := range n {
		wantLower(t, h, id, api.Dist(id*7919%1000), true)
	}
	for id := range n {
		if id%3 != 0 {
			wantDrop(t, h, id, true)
		}
	}
	wantLen(t, h, (n+2)/3)
	var last member[api.Dist]
	for many := 0; h.Len() > 0; many++ {
		id, key, e := h.Pop()
		if e != api.OK || id%3 != 0 || key != api.Dist(id*7919%1000) {
			t.Fatalf("out came %d, %d, %v", id, key, e)
		}
		if many > 0 && (key < last.key || key == last.key && id <= last.id) {
			t.Fatalf("%d, %d came behind %v", id, key, last)
		}
		last = member[api.Dist]{id, key}
	}
	wantEmpty(t, h)
}

// Promises 4.1 to 4.3, P1: rows of calls that are made up, of sizes that are made up.
func FuzzHeap(f *testing.F) {
	f.Add(5, []byte{0, 3, 7, 0, 1, 7, 0, 3, 9, 0, 3, 2, 1, 0, 0, 2, 1, 0})
	f.Add(0, []byte{1, 0, 0, 2, 0, 0, 0, 0, 0})
	f.Add(-1, []byte{})
	f.Add(api.MaxItems+1, []byte{})
	f.Add(3, []byte{0, 255, 1, 2, 255, 1, 0, 3, 255})
	f.Fuzz(func(t *testing.T, n int, calls []byte) {
		if n < 0 || n > api.MaxItems {
			if h, e := New(n); h != nil || e != api.ErrRange {
				t.Fatalf("New(%d): %v, %v", n, h, e)
			}
			return
		}
		b := newBoth(t, n)
		for ; len(calls) >= 3; calls = calls[3:] {
			b.do(call{int(calls[0] % 3), int(int8(calls[1])), api.Dist(int64(int8(calls[2])))})
		}
		b.look()
		b.drain()
	})
}
