package heap

import (
	"strings"
	"testing"
)

// longer orders texts: the longer one ahead, of the same length the greater number.
func longer(a, b member[string]) bool {
	if len(a.key) != len(b.key) {
		return len(a.key) > len(b.key)
	}
	return a.id > b.id
}

// The heap is of any kind of key, and goes by the function that it was made with, not by the keys' own order.
func TestQueueOfTexts(t *testing.T) {
	q := emptyQueue(6, longer)
	for id, key := range []string{"bb", "a", "zzz", "cc", "", "d"} {
		if !q.lower(member[string]{id, key}) {
			t.Error("not put in:", id)
		}
	}
	if q.lower(member[string]{4, ""}) || q.lower(member[string]{0, "z"}) || !q.lower(member[string]{1, "aaaa"}) {
		t.Error("a key is lowered where it is not ahead, or is not where it is")
	}
	at, there := q.find(3)
	if !there {
		t.Fatal("3 is not found")
	}
	q.take(at)
	for _, want := range []member[string]{{1, "aaaa"}, {2, "zzz"}, {0, "bb"}, {5, "d"}, {4, ""}} {
		if q.members[0] != want {
			t.Fatalf("first is %v, want %v", q.members[0], want)
		}
		q.take(0)
	}
	if len(q.members) != 0 {
		t.Error("left:", q.members)
	}
}

// What is out is not kept: neither as a member nor in the spare room behind them.
func TestNothingIsKept(t *testing.T) {
	q := emptyQueue(50, longer)
	for id := range 50 {
		q.lower(member[string]{id, strings.Repeat("x", id*7%50+1)})
	}
	for id := range 25 {
		at, _ := q.find(id)
		q.take(at)
	}
	for len(q.members) > 0 {
		q.take(0)
	}
	for _, m := range q.members[:cap(q.members)] {
		if m != (member[string]{}) {
			t.Error("kept:", m)
		}
	}
}
