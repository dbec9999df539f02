package net

import (
	"math"
	"runtime"
	"slices"
	"strconv"
	"strings"
	"testing"
	"unsafe"

	"flyover/api"
	tools "flyover/plain"
)

func want(t *testing.T, what string, e, want api.Errno) {
	t.Helper()
	if e != want {
		t.Errorf("%s: %v, want %v", what, e, want)
	}
}

func newNet(t *testing.T, nodes int) *Net {
	t.Helper()
	n, e := New(nodes)
	if e != api.OK || n == nil {
		t.Fatalf("New(%d): %v, %v", nodes, n, e)
	}
	return n
}

// sent is a net of three nodes with these letters from 0 to 1.
func sent(t *testing.T, letters ...string) *Net {
	t.Helper()
	n := newNet(t, 3)
	for _, body := range letters {
		want(t, "Send", n.Send(0, 1, body), api.OK)
	}
	return n
}

func wantBag(t *testing.T, n *Net, from, to int, letters ...string) {
	t.Helper()
	if got, e := n.Bag(from, to); !slices.Equal(got, letters) || e != api.OK {
		t.Errorf("Bag(%d, %d): %d letters (%.300q), %v, want %d (%.300q)", from, to, len(got), got, e, len(letters), letters)
	}
}

func wantLinks(t *testing.T, n *Net, links ...[2]int) {
	t.Helper()
	if got := n.Links(); !slices.Equal(got, links) {
		t.Errorf("Links: %v, want %v", got, links)
	}
}

func wantTake(t *testing.T, n *Net, from, to, k int, body string, e api.Errno) {
	t.Helper()
	if got, e2 := n.Take(from, to, k); got != body || e2 != e {
		t.Errorf("Take(%d, %d, %d): %d bytes (%.20q), %v, want %d (%.20q), %v", from, to, k, len(got), got, e2, len(body), body, e)
	}
}

func wantTick(t *testing.T, n *Net, timers ...api.Timer) {
	t.Helper()
	clock := n.Now()
	if got, e := n.Tick(); !slices.Equal(got, timers) || e != api.OK {
		t.Errorf("Tick: %v, %v, want %v", got, e, timers)
	}
	if n.Now() != clock+1 {
		t.Errorf("Now: %d behind a Tick, %d ahead of it", n.Now(), clock)
	}
}

// wantNoTicks asks that nothing comes within so many ticks.
func wantNoTicks(t *testing.T, n *Net, many int) {
	t.Helper()
	for range many {
		wantTick(t, n)
	}
}

func bytesOf(many int) string { return strings.Repeat("y", many) }

// numbered are so many letters, all unlike.
func numbered(many int) []string {
	var l []string
	for i := range many {
		l = append(l, strconv.Itoa(i))
	}
	return l
}

// Promises 19.1 to 19.5: the chapter's examples.
func TestExamples(t *testing.T) {
	n := newNet(t, 3)
	want(t, "Send", n.Send(0, 1, "a"), api.OK)
	want(t, "Send", n.Send(0, 1, "b"), api.OK)
	want(t, "Copy", n.Copy(0, 1, 0), api.OK)
	wantBag(t, n, 0, 1, "a", "b", "a")
	wantTake(t, n, 0, 1, 1, "b", api.OK)
	want(t, "Lose", n.Lose(0, 1, 0), api.OK)
	wantBag(t, n, 0, 1, "a")
	wantLinks(t, n, [2]int{0, 1})
	want(t, "Send to itself", n.Send(0, 0, ""), api.ErrNode)

	want(t, "Set", n.Set(1, 2, 7), api.OK)
	wantTick(t, n)
	wantTick(t, n, api.Timer{Node: 1, At: 2, Tag: 7})
	want(t, "Set", n.Set(1, 3, 7), api.OK)
	want(t, "Down", n.Down(1), api.OK)
	wantTick(t, n)
	wantTake(t, n, 0, 1, 0, "", api.ErrDown)
	want(t, "Send of one that is down", n.Send(1, 0, ""), api.ErrDown)
	want(t, "Up", n.Up(1), api.OK)
	wantTake(t, n, 0, 1, 0, "a", api.OK)
}

// Promise 19.1: New: numbers of nodes that are none.
func TestNewRange(t *testing.T) {
	for _, nodes := range []int{0, -1, -2, -65, api.MaxShards + 2, api.MaxShards + 3, 1000, 1<<32 + 1, math.MinInt, math.MaxInt} {
		if n, e := New(nodes); n != nil || e != api.ErrRange {
			t.Errorf("New(%d): %v, %v", nodes, n, e)
		}
	}
}

// Promises 19.1, 19.4, 19.5: New: each number of nodes that may be: so many of them, all up, with empty bags, without timers, at the time 0.
func TestNew(t *testing.T) {
	for nodes := 1; nodes <= api.MaxShards+1; nodes++ {
		n := newNet(t, nodes)
		wantLinks(t, n)
		if n.Now() != 0 {
			t.Error("Now:", n.Now())
		}
		wantNoTicks(t, n, 3)
		for from := range nodes {
			want(t, "Up", n.Up(from), api.ErrDown)
			want(t, "Set", n.Set(from, 9, 1), api.OK)
			for to := range nodes {
				if from != to {
					wantBag(t, n, from, to)
					wantTake(t, n, from, to, 0, "", api.ErrNone)
					want(t, "Send", n.Send(from, to, ""), api.OK)
				}
			}
		}
		if many := len(n.Links()); many != nodes*(nodes-1) {
			t.Errorf("%d links of %d nodes", many, nodes)
		}
		want(t, "Up of one more", n.Up(nodes), api.ErrNode)
		want(t, "Down of one more", n.Down(nodes), api.ErrNode)
		want(t, "Down of the last", n.Down(nodes-1), api.OK)
	}
}

// Promise 19.1, R4: two nets do not tell of each other.
func TestTwoNets(t *testing.T) {
	n, other := newNet(t, 3), newNet(t, 3)
	want(t, "Send", n.Send(0, 1, "a"), api.OK)
	want(t, "Set", n.Set(0, 2, 1), api.OK)
	want(t, "Down", n.Down(2), api.OK)
	wantTick(t, n)
	wantLinks(t, other)
	wantBag(t, other, 0, 1)
	want(t, "Up", other.Up(2), api.ErrDown)
	if other.Now() != 0 {
		t.Error("Now:", other.Now())
	}
	wantNoTicks(t, other, 3)
}

// wrongNodes are none of a net of three.
func wrongNodes() []int {
	return []int{-1, -2, -3, 3, 4, 64, 65, 1 << 8, 1 << 16, 1 << 32, -1 << 32, 1<<32 + 1, math.MinInt, math.MaxInt}
}

// linked are the calls that take two nodes, with something else that is wrong, too, and with nothing else.
func linked() map[string]func(n *Net, from, to int) api.Errno {
	long := bytesOf(api.MaxBytes + 1)
	none := func(body string, e api.Errno) api.Errno {
		if body != "" {
			return -1
		}
		return e
	}
	return map[string]func(n *Net, from, to int) api.Errno{
		"Send":         func(n *Net, from, to int) api.Errno { return n.Send(from, to, "z") },
		"Send of long": func(n *Net, from, to int) api.Errno { return n.Send(from, to, long) },
		"Take":         func(n *Net, from, to int) api.Errno { return none(n.Take(from, to, 0)) },
		"Take of none": func(n *Net, from, to int) api.Errno { return none(n.Take(from, to, -1)) },
		"Copy":         func(n *Net, from, to int) api.Errno { return n.Copy(from, to, 0) },
		"Copy of none": func(n *Net, from, to int) api.Errno { return n.Copy(from, to, 9) },
		"Lose":         func(n *Net, from, to int) api.Errno { return n.Lose(from, to, 0) },
		"Lose of none": func(n *Net, from, to int) api.Errno { return n.Lose(from, to, 9) },
		"Bag": func(n *Net, from, to int) api.Errno {
			l, e := n.Bag(from, to)
			return none(strings.Join(l, "")+bytesOf(len(l)), e)
		},
	}
}

// Promises 19.1 to 19.3, R1, R5, P1: of the calls that take two nodes: ErrNode, if one is none, or both are the same, whatever else is wrong, also where nodes are down; nothing changes.
func TestNoLink(t *testing.T) {
	for what, do := range linked() {
		for _, down := range []bool{false, true} {
			b := newBoth(t, 3)
			b.all([]call{{kind: sends, from: 0, to: 1, body: "a"}, {kind: sends, from: 1, to: 2, body: "b"}, {kind: sends, from: 2, to: 0, body: "c"}})
			for node := range 3 {
				if down {
					b.do(call{kind: downs, from: node})
				}
				want(t, what+" to itself", do(b.n, node, node), api.ErrNode)
				for _, wrong := range wrongNodes() {
					want(t, what, do(b.n, node, wrong), api.ErrNode)
					want(t, what, do(b.n, wrong, node), api.ErrNode)
					want(t, what, do(b.n, wrong, wrong), api.ErrNode)
					want(t, what, do(b.n, wrong, -5), api.ErrNode)
				}
			}
			b.end(2)
		}
	}
}

// Promises 19.1, 19.4, 19.5, R1, R5, P1: of the calls that take one node: ErrNode, if it is none, whatever else is wrong; nothing changes.
func TestNoNode(t *testing.T) {
	b := newBoth(t, 3)
	b.all([]call{{kind: sets, from: 0, k: 1, tag: 1}, {kind: sets, from: 2, k: 2, tag: 2}, {kind: downs, from: 1}})
	for _, wrong := range wrongNodes() {
		want(t, "Down", b.n.Down(wrong), api.ErrNode)
		want(t, "Up", b.n.Up(wrong), api.ErrNode)
		for _, at := range []int{1, 0, -1, api.MaxTicks, api.MaxTicks + 1, math.MinInt, math.MaxInt} {
			want(t, "Set", b.n.Set(wrong, at, 1), api.ErrNode)
		}
	}
	b.end(3)
}

// Promises 19.1, R1: a net of one node has no links.
func TestOneNode(t *testing.T) {
	for what, do := range linked() {
		for _, to := range []int{-1, 0, 1} {
			want(t, what, do(newNet(t, 1), 0, to), api.ErrNode)
		}
	}
}

// Promise 19.2: letters of any bytes, one behind the other, each link with a bag of its own.
func TestSend(t *testing.T) {
	every := make([]byte, 256)
	for b := range every {
		every[b] = byte(b)
	}
	n := newNet(t, 3)
	letters := []string{"", "x", "", "xyz", "x", string(every), "\xff\xfe", "ä", bytesOf(70000), "\x00"}
	for many, body := range letters {
		want(t, "Send", n.Send(0, 1, body), api.OK)
		wantBag(t, n, 0, 1, letters[:many+1]...)
		wantLinks(t, n, [2]int{0, 1})
	}
	want(t, "Send", n.Send(1, 0, "back"), api.OK)
	want(t, "Send", n.Send(0, 2, "aside"), api.OK)
	wantBag(t, n, 0, 1, letters...)
	wantBag(t, n, 1, 0, "back")
	wantBag(t, n, 0, 2, "aside")
	wantBag(t, n, 2, 0)
	wantBag(t, n, 1, 2)
}

// Promise 19.2: letters of as many bytes as may be, and of more.
func TestSendLong(t *testing.T) {
	for _, many := range []int{api.MaxBytes - 1, api.MaxBytes} {
		n := sent(t, bytesOf(many))
		wantTake(t, n, 0, 1, 0, bytesOf(many), api.OK)
	}
	for _, many := range []int{api.MaxBytes + 1, api.MaxBytes + 2, 5 * api.MaxBytes} {
		n := sent(t, "a")
		want(t, "Send", n.Send(0, 1, bytesOf(many)), api.ErrLong)
		want(t, "Send", n.Send(1, 2, bytesOf(many)), api.ErrLong)
		wantBag(t, n, 0, 1, "a")
		wantLinks(t, n, [2]int{0, 1})
	}
}

// Promises 19.2, R1: a node that is down sends nothing, but it is sent to; a body that is too long is told ahead of that, a full bag behind it.
func TestSendDown(t *testing.T) {
	n := sent(t, "a")
	want(t, "Down", n.Down(0), api.OK)
	want(t, "Send", n.Send(0, 1, "b"), api.ErrDown)
	want(t, "Send of long", n.Send(0, 1, bytesOf(api.MaxBytes+1)), api.ErrLong)
	want(t, "Send to one that is down", n.Send(1, 0, "c"), api.OK)
	want(t, "Down", n.Down(1), api.OK)
	want(t, "Send from and to one that is down", n.Send(0, 1, "b"), api.ErrDown)
	want(t, "Send from and to one that is down", n.Send(1, 0, "b"), api.ErrDown)
	want(t, "Send, others", n.Send(2, 0, "d"), api.OK)
	wantBag(t, n, 0, 1, "a")
	wantBag(t, n, 1, 0, "c")
	wantBag(t, n, 2, 0, "d")
	want(t, "Up", n.Up(0), api.OK)
	want(t, "Send, up again", n.Send(0, 1, "b"), api.OK)
	wantBag(t, n, 0, 1, "a", "b")
}

// Promises 19.2, 19.3, R1: a bag of as many letters as may be, and one more; other bags have room, and this one has again where a letter is gone.
func TestFull(t *testing.T) {
	letters := numbered(api.MaxLetters - 1)
	n := sent(t, letters...)
	want(t, "the last one", n.Send(0, 1, "last"), api.OK)
	letters = append(letters, "last")
	for range 3 {
		want(t, "Send of one more", n.Send(0, 1, "more"), api.ErrLong)
		want(t, "Copy of one more", n.Copy(0, 1, 5), api.ErrLong)
		want(t, "Copy of none", n.Copy(0, 1, api.MaxLetters), api.ErrNone)
		want(t, "Copy of none", n.Copy(0, 1, -1), api.ErrNone)
	}
	wantBag(t, n, 0, 1, letters...)
	want(t, "Send, another bag", n.Send(1, 0, "a"), api.OK)
	want(t, "Copy, another bag", n.Copy(1, 0, 0), api.OK)
	want(t, "Send, another bag", n.Send(0, 2, "a"), api.OK)
	want(t, "Down", n.Down(0), api.OK)
	want(t, "Send of one more, down", n.Send(0, 1, "more"), api.ErrDown)
	want(t, "Copy of one more, down", n.Copy(0, 1, 5), api.ErrLong)
	want(t, "Up", n.Up(0), api.OK)
	wantTake(t, n, 0, 1, 7, "7", api.OK)
	want(t, "Copy where there is room", n.Copy(0, 1, 3), api.OK)
	want(t, "Send of one more", n.Send(0, 1, "more"), api.ErrLong)
	want(t, "Lose", n.Lose(0, 1, 0), api.OK)
	want(t, "Send where there is room", n.Send(0, 1, "more"), api.OK)
	want(t, "Copy of one more", n.Copy(0, 1, 0), api.ErrLong)
	letters = append(slices.Concat(letters[1:7], letters[8:]), "3", "more")
	wantBag(t, n, 0, 1, letters...)
}

// Promise 19.3: Take and Lose: each letter of a bag, and places where there is none.
func TestEachPlace(t *testing.T) {
	for many := range 6 {
		letters := numbered(many)
		for k := range many {
			left := slices.Delete(slices.Clone(letters), k, k+1)
			n := sent(t, letters...)
			wantTake(t, n, 0, 1, k, letters[k], api.OK)
			wantBag(t, n, 0, 1, left...)
			n = sent(t, letters...)
			want(t, "Lose", n.Lose(0, 1, k), api.OK)
			wantBag(t, n, 0, 1, left...)
			n = sent(t, letters...)
			want(t, "Copy", n.Copy(0, 1, k), api.OK)
			wantBag(t, n, 0, 1, append(slices.Clone(letters), letters[k])...)
		}
		n := sent(t, letters...)
		want(t, "Send", n.Send(1, 0, "other"), api.OK)
		for _, k := range []int{-1, -2, many, many + 1, api.MaxLetters, 1 << 32, -1 << 32, math.MinInt, math.MaxInt} {
			wantTake(t, n, 0, 1, k, "", api.ErrNone)
			want(t, "Lose", n.Lose(0, 1, k), api.ErrNone)
			want(t, "Copy", n.Copy(0, 1, k), api.ErrNone)
		}
		wantBag(t, n, 0, 1, letters...)
		wantBag(t, n, 1, 0, "other")
	}
}

// Promises 19.3, R1: a letter is not taken by a node that is down, and stays; whether the one that sent it is down does not matter; a letter that there is not is told ahead.
func TestTakeDown(t *testing.T) {
	n := sent(t, "a", "b")
	want(t, "Down", n.Down(1), api.OK)
	wantTake(t, n, 0, 1, 0, "", api.ErrDown)
	wantTake(t, n, 0, 1, 1, "", api.ErrDown)
	wantTake(t, n, 0, 1, 2, "", api.ErrNone)
	wantTake(t, n, 0, 1, -1, "", api.ErrNone)
	wantTake(t, n, 2, 1, 0, "", api.ErrNone)
	wantBag(t, n, 0, 1, "a", "b")
	want(t, "Up", n.Up(1), api.OK)
	want(t, "Down", n.Down(0), api.OK)
	wantTake(t, n, 0, 1, 1, "b", api.OK)
	want(t, "Down", n.Down(2), api.OK)
	wantTake(t, n, 0, 1, 0, "a", api.OK)
	wantTake(t, n, 0, 1, 0, "", api.ErrNone)
}

// Promise 19.3: letters are copied, lost and told whichever nodes are down.
func TestDownDoesNotMatter(t *testing.T) {
	for set := range 8 {
		n := sent(t, "a", "b")
		for node := range 3 {
			if set>>node&1 == 1 {
				want(t, "Down", n.Down(node), api.OK)
			}
		}
		want(t, "Copy", n.Copy(0, 1, 0), api.OK)
		want(t, "Copy", n.Copy(0, 1, 3), api.ErrNone)
		wantBag(t, n, 0, 1, "a", "b", "a")
		want(t, "Lose", n.Lose(0, 1, 0), api.OK)
		want(t, "Lose", n.Lose(0, 1, 2), api.ErrNone)
		wantBag(t, n, 0, 1, "b", "a")
		wantLinks(t, n, [2]int{0, 1})
	}
}

// Promise 19.3: a letter that was copied is one of its own: one is there when the other is gone.
func TestCopyIsOneOfItsOwn(t *testing.T) {
	n := sent(t, "a", "b")
	want(t, "Copy", n.Copy(0, 1, 1), api.OK)
	want(t, "Copy of the copy", n.Copy(0, 1, 2), api.OK)
	wantTake(t, n, 0, 1, 1, "b", api.OK)
	want(t, "Lose", n.Lose(0, 1, 1), api.OK)
	wantBag(t, n, 0, 1, "a", "b")
	wantTake(t, n, 0, 1, 1, "b", api.OK)
	wantBag(t, n, 0, 1, "a")
}

// Promise 19.3: Links: by the first node, then the second one, whatever the order in which the letters came; a bag whose last letter is gone is empty.
func TestLinks(t *testing.T) {
	draw := tools.Noise()
	for _, nodes := range []int{2, 3, 5, 12, api.MaxShards + 1} {
		n := newNet(t, nodes)
		var rising [][2]int
		for from := range nodes {
			for to := range nodes {
				if from != to {
					rising = append(rising, [2]int{from, to})
				}
			}
		}
		drawn := func() [][2]int {
			l := slices.Clone(rising)
			for i := range l {
				at := i + draw(len(l)-i)
				l[i], l[at] = l[at], l[i]
			}
			return l
		}
		for _, link := range drawn() {
			want(t, "Send", n.Send(link[0], link[1], ""), api.OK)
		}
		wantLinks(t, n, rising...)
		for at, link := range drawn() {
			if at%2 == 0 {
				wantTake(t, n, link[0], link[1], 0, "", api.OK)
			} else {
				want(t, "Lose", n.Lose(link[0], link[1], 0), api.OK)
			}
			rising = slices.DeleteFunc(rising, func(x [2]int) bool { return x == link })
			if at%97 == 0 || len(rising) < 9 {
				wantLinks(t, n, rising...)
			}
		}
		wantLinks(t, n)
	}
}

// Promise 19.3: a bag that became empty is one like any other: letters are put in again.
func TestEmptyAgain(t *testing.T) {
	n := newNet(t, 3)
	for round := range 5 {
		body := strconv.Itoa(round)
		want(t, "Send", n.Send(0, 1, body), api.OK)
		want(t, "Copy", n.Copy(0, 1, 0), api.OK)
		wantTake(t, n, 0, 1, 0, body, api.OK)
		wantLinks(t, n, [2]int{0, 1})
		want(t, "Lose", n.Lose(0, 1, 0), api.OK)
		wantBag(t, n, 0, 1)
		wantLinks(t, n)
		want(t, "Copy of none", n.Copy(0, 1, 0), api.ErrNone)
		want(t, "Lose of none", n.Lose(0, 1, 0), api.ErrNone)
		wantTake(t, n, 0, 1, 0, "", api.ErrNone)
	}
}

// Promise 19.4: Down and Up: each node by itself, again and again; what is so already is refused.
func TestDownAndUp(t *testing.T) {
	n := newNet(t, 4)
	for range 3 {
		for node := range 4 {
			want(t, "Up, up", n.Up(node), api.ErrDown)
			want(t, "Down", n.Down(node), api.OK)
			for range 2 {
				want(t, "Down, down", n.Down(node), api.ErrDown)
			}
			want(t, "Up of the next", n.Up((node+1)%4), api.ErrDown)
			want(t, "Up", n.Up(node), api.OK)
		}
	}
	for node := range 4 {
		want(t, "Down", n.Down(node), api.OK)
	}
	wantNoTicks(t, n, 2)
	for node := range 4 {
		want(t, "Up", n.Up(node), api.OK)
	}
}

// Promise 19.4: letters to a node and from it stay in their bags when it goes down, and when it comes up.
func TestLettersStay(t *testing.T) {
	n := sent(t, "a", "b")
	want(t, "Send", n.Send(1, 2, "c"), api.OK)
	for range 2 {
		want(t, "Down", n.Down(1), api.OK)
		wantBag(t, n, 0, 1, "a", "b")
		wantBag(t, n, 1, 2, "c")
		wantLinks(t, n, [2]int{0, 1}, [2]int{1, 2})
		want(t, "Up", n.Up(1), api.OK)
		wantBag(t, n, 0, 1, "a", "b")
		wantBag(t, n, 1, 2, "c")
	}
}

// Promise 19.4: the timers of a node that goes down are gone, also when it is up again; those of the others come.
func TestTimersGo(t *testing.T) {
	n := newNet(t, 3)
	for at := 1; at < 4; at++ {
		for _, node := range []int{1, 0, 1, 2, 1} {
			want(t, "Set", n.Set(node, at, at), api.OK)
		}
	}
	want(t, "Down", n.Down(1), api.OK)
	wantTick(t, n, api.Timer{Node: 0, At: 1, Tag: 1}, api.Timer{Node: 2, At: 1, Tag: 1})
	want(t, "Up", n.Up(1), api.OK)
	want(t, "Set", n.Set(1, 3, 8), api.OK)
	wantTick(t, n, api.Timer{Node: 0, At: 2, Tag: 2}, api.Timer{Node: 2, At: 2, Tag: 2})
	wantTick(t, n, api.Timer{Node: 0, At: 3, Tag: 3}, api.Timer{Node: 1, At: 3, Tag: 8}, api.Timer{Node: 2, At: 3, Tag: 3})
	wantNoTicks(t, n, 3)
}

// Promises 19.4, R5: a Down and an Up that are refused leave timers alone.
func TestRefusedDownKeepsTimers(t *testing.T) {
	n := newNet(t, 3)
	want(t, "Set", n.Set(1, 1, 7), api.OK)
	want(t, "Up", n.Up(1), api.ErrDown)
	want(t, "Down of none", n.Down(3), api.ErrNode)
	want(t, "Down of another", n.Down(2), api.OK)
	want(t, "Down again", n.Down(2), api.ErrDown)
	wantTick(t, n, api.Timer{Node: 1, At: 1, Tag: 7})
}

// Promises 19.5, R1: Set: times that may be, and those that may not, at several times of the clock; of a node that is down that is told ahead.
func TestSetRange(t *testing.T) {
	for _, clock := range []int{0, 1, 2, 1000, api.MaxTicks - 2, api.MaxTicks - 1, api.MaxTicks} {
		n := newNet(t, 3)
		n.now = clock
		want(t, "Down", n.Down(2), api.OK)
		for _, at := range []int{math.MinInt, -1 << 32, -1, 0, 1, 2, clock - 1, clock, clock + 1, clock + 2, api.MaxTicks - 1, api.MaxTicks, api.MaxTicks + 1, 1<<32 + 5, math.MaxInt} {
			wanted := api.OK
			if at <= clock || at > api.MaxTicks {
				wanted = api.ErrRange
			}
			want(t, "Set at "+strconv.Itoa(at)+", the clock "+strconv.Itoa(clock), n.Set(0, at, 0), wanted)
			want(t, "Set, down", n.Set(2, at, 0), api.ErrDown)
		}
	}
}

// Promise 19.5: the greatest and the least tags, and many timers that are the same: each comes once.
func TestTags(t *testing.T) {
	n := newNet(t, 2)
	var timers []api.Timer
	for _, tag := range []int{0, -1, math.MaxInt, math.MinInt, 7, 7, 7, 1 << 32, 0} {
		want(t, "Set", n.Set(1, 1, tag), api.OK)
		timers = append(timers, api.Timer{Node: 1, At: 1, Tag: tag})
	}
	wantTick(t, n, timers...)
	wantNoTicks(t, n, 3)
}

// Promise 19.5: Tick: those that are due, by their nodes, and those of one node as they were set, whatever the order in which they were set.
func TestTickOrder(t *testing.T) {
	draw := tools.Noise()
	for _, nodes := range []int{1, 2, 3, 10, api.MaxShards + 1} {
		for range 20 {
			n := newNet(t, nodes)
			var set []api.Timer
			for tag := range 300 {
				x := api.Timer{Node: draw(nodes), At: 1 + draw(5), Tag: tag}
				want(t, "Set", n.Set(x.Node, x.At, x.Tag), api.OK)
				set = append(set, x)
			}
			for at := 1; at <= 6; at++ {
				var due []api.Timer
				for node := range nodes {
					for _, x := range set {
						if x.At == at && x.Node == node {
							due = append(due, x)
						}
					}
				}
				wantTick(t, n, due...)
			}
		}
	}
}

// Promise 19.5: Tick: timers come at their time, not ahead of it, and also those that are set when others have come.
func TestTickTimes(t *testing.T) {
	n := newNet(t, 3)
	for _, at := range []int{10, 3, 7, 1, 9} {
		want(t, "Set", n.Set(at%3, at, at), api.OK)
	}
	for at := 1; at <= 12; at++ {
		var due []api.Timer
		if at == 5 {
			due = append(due, api.Timer{Node: 0, At: 5, Tag: 50})
		}
		if slices.Contains([]int{10, 3, 7, 1, 9}, at) {
			due = append(due, api.Timer{Node: at % 3, At: at, Tag: at})
		}
		wantTick(t, n, due...)
		if at == 4 {
			want(t, "Set for the next tick", n.Set(0, 5, 50), api.OK)
			want(t, "Set for now", n.Set(0, 4, 50), api.ErrRange)
		}
	}
}

// Promise 19.5, R5: the clock goes as far as it may, and no farther; what is due at its last time comes.
func TestLastTick(t *testing.T) {
	n := sent(t, "a")
	n.now = api.MaxTicks - 2
	want(t, "Set", n.Set(1, api.MaxTicks, 7), api.OK)
	wantTick(t, n)
	wantTick(t, n, api.Timer{Node: 1, At: api.MaxTicks, Tag: 7})
	for range 3 {
		if timers, e := n.Tick(); len(timers) > 0 || e != api.ErrRange {
			t.Errorf("Tick: %v, %v", timers, e)
		}
		if n.Now() != api.MaxTicks {
			t.Error("Now:", n.Now())
		}
		want(t, "Set", n.Set(1, api.MaxTicks, 7), api.ErrRange)
	}
	wantBag(t, n, 0, 1, "a")
	want(t, "Up", n.Up(1), api.ErrDown)
}

// timed is a net of three nodes with so many timers: a quarter of them of the node 1, an eighth of them due at 1, the others later.
func timed(t *testing.T, many int) *Net {
	t.Helper()
	n := newNet(t, 3)
	for i := range many {
		at := 5 + i%1000
		if i%8 == 0 {
			at = 1
		}
		if e := n.Set([]int{0, 1, 2, 2}[i%4], at, i); e != api.OK {
			t.Fatalf("Set of the timer %d: %v", i, e)
		}
	}
	return n
}

// Promises 19.4, 19.5, R1: as many timers as may be, of all nodes together, and one more; there is room again for as many as have come, or are gone with their node.
func TestManyTimers(t *testing.T) {
	n := timed(t, api.MaxItems-1)
	want(t, "the last one", n.Set(0, api.MaxTicks, -1), api.OK)
	for node := range 3 {
		want(t, "one more", n.Set(node, 5, -2), api.ErrLong)
		want(t, "one more, at no time", n.Set(node, 0, -2), api.ErrRange)
		want(t, "one more, at no time", n.Set(node, api.MaxTicks+1, -2), api.ErrRange)
	}
	due, e := n.Tick()
	if len(due) != api.MaxItems/8 || e != api.OK {
		t.Fatalf("%d timers, %v", len(due), e)
	}
	for range due {
		want(t, "Set where there is room", n.Set(2, 2000, -3), api.OK)
	}
	want(t, "one more", n.Set(2, 2000, -4), api.ErrLong)
	want(t, "Down", n.Down(1), api.OK)
	want(t, "one more of a node that is down", n.Set(1, 2000, -4), api.ErrDown)
	want(t, "Up", n.Up(1), api.OK)
	for range api.MaxItems / 4 {
		want(t, "Set where there is room", n.Set(0, 2000, -5), api.OK)
	}
	want(t, "one more", n.Set(1, 2000, -6), api.ErrLong)
}

// Promises 19.4, 19.5: as many timers as may be: all come, as the second reading tells, but those of a node that went down.
func TestManyTimersCome(t *testing.T) {
	b := newBoth(t, 5)
	draw := tools.Noise()
	for i := range api.MaxItems + 2 {
		b.do(call{kind: sets, from: draw(5), k: 1 + draw(40), tag: i})
	}
	for step := range 42 {
		if step == 20 {
			b.do(call{kind: downs, from: 3})
		}
		b.do(call{kind: ticks})
	}
	if len(b.p.timers) > 0 {
		t.Error("left:", len(b.p.timers))
	}
	b.end(3)
}

// R4: a body is not kept: its memory may become something else.
func TestBodyIsNotKept(t *testing.T) {
	body := []byte("body")
	n := sent(t, unsafe.String(unsafe.SliceData(body), len(body)))
	want(t, "Copy", n.Copy(0, 1, 0), api.OK)
	copy(body, "----")
	wantBag(t, n, 0, 1, "body", "body")
	wantTake(t, n, 0, 1, 0, "body", api.OK)
}

// R4: letters that are told are new memory, also those that were copied from one another: none shares its bytes with another one.
func TestLettersAreNew(t *testing.T) {
	n := sent(t, "body")
	for range 5 {
		want(t, "Copy", n.Copy(0, 1, 0), api.OK)
	}
	first, _ := n.Bag(0, 1)
	second, _ := n.Bag(0, 1)
	told := slices.Concat(first, second)
	for range first {
		letter, e := n.Take(0, 1, 0)
		want(t, "Take", e, api.OK)
		told = append(told, letter)
		rest, _ := n.Bag(0, 1)
		told = append(told, rest...)
	}
	for i, x := range told {
		for _, y := range told[:i] {
			if unsafe.StringData(x) == unsafe.StringData(y) {
				t.Fatal("two letters share their bytes")
			}
		}
	}
}

// R4: lists that are told are new memory, spare room too: what is done to one is not seen in another one, nor in the net.
func TestListsAreNew(t *testing.T) {
	n := sent(t, "a", "b", "c")
	want(t, "Send", n.Send(1, 2, "d"), api.OK)
	for at := 1; at < 4; at++ {
		for tag := range 5 {
			want(t, "Set", n.Set(tag%3, at, tag), api.OK)
		}
	}
	letters, _ := n.Bag(0, 1)
	links := n.Links()
	others, otherLinks := slices.Clone(letters), slices.Clone(links)
	due, _ := n.Tick()
	for i, room := 0, letters[:cap(letters)]; i < len(room); i++ {
		room[i] = "?"
	}
	for i, room := 0, links[:cap(links)]; i < len(room); i++ {
		room[i] = [2]int{2, 2}
	}
	for i, room := 0, due[:cap(due)]; i < len(room); i++ {
		room[i] = api.Timer{Node: 2, At: 2, Tag: -1}
	}
	wantBag(t, n, 0, 1, others...)
	wantLinks(t, n, otherLinks...)
	want(t, "Send", n.Send(0, 1, "e"), api.OK)
	wantBag(t, n, 0, 1, append(others, "e")...)
	for at := 2; at < 4; at++ {
		wantTick(t, n, api.Timer{Node: 0, At: at, Tag: 0}, api.Timer{Node: 0, At: at, Tag: 3}, api.Timer{Node: 1, At: at, Tag: 1}, api.Timer{Node: 1, At: at, Tag: 4}, api.Timer{Node: 2, At: at, Tag: 2})
	}
}

// R4: what is told stays as it is, whatever is done to the net behind it.
func TestAnswersStay(t *testing.T) {
	n := sent(t, "a", "b", "c")
	want(t, "Set", n.Set(0, 1, 1), api.OK)
	want(t, "Set", n.Set(0, 2, 2), api.OK)
	letters, _ := n.Bag(0, 1)
	links := n.Links()
	due, _ := n.Tick()
	want(t, "Lose", n.Lose(0, 1, 0), api.OK)
	want(t, "Send", n.Send(0, 1, "d"), api.OK)
	want(t, "Send", n.Send(0, 2, "e"), api.OK)
	want(t, "Set", n.Set(0, 2, 3), api.OK)
	wantTick(t, n, api.Timer{Node: 0, At: 2, Tag: 2}, api.Timer{Node: 0, At: 2, Tag: 3})
	if !slices.Equal(letters, []string{"a", "b", "c"}) || !slices.Equal(links, [][2]int{{0, 1}}) || !slices.Equal(due, []api.Timer{{Node: 0, At: 1, Tag: 1}}) {
		t.Errorf("the answers became %q, %v, %v", letters, links, due)
	}
}

// Promise 19.3, P1: copies of the greatest letter take no room of their own: else a few letters that are copied again and again would take all that there is.
func TestCopiesOfTheGreatest(t *testing.T) {
	body := bytesOf(api.MaxBytes)
	n := sent(t, body)
	var ahead, behind runtime.MemStats
	runtime.ReadMemStats(&ahead)
	for range api.MaxLetters - 1 {
		want(t, "Copy", n.Copy(0, 1, 0), api.OK)
	}
	runtime.ReadMemStats(&behind)
	if bytes := behind.TotalAlloc - ahead.TotalAlloc; bytes > 16*api.MaxBytes {
		t.Errorf("the copies take %d bytes", bytes)
	}
	want(t, "Copy of one more", n.Copy(0, 1, 0), api.ErrLong)
	wantTake(t, n, 0, 1, api.MaxLetters-1, body, api.OK)
	wantTake(t, n, 0, 1, 0, body, api.OK)
}

// choices are calls of two links, with a wrong one among them, and of timers.
func choices() []call {
	return []call{
		{kind: sends, from: 0, to: 1, body: "a"}, {kind: sends, from: 0, to: 1, body: "b"}, {kind: sends, from: 1, to: 0, body: "c"}, {kind: sends, from: 1, to: 1, body: "d"},
		{kind: takes, from: 0, to: 1}, {kind: takes, from: 0, to: 1, k: 1}, {kind: takes, from: 1, to: 0},
		{kind: copies, from: 0, to: 1}, {kind: loses, from: 0, to: 1}, {kind: loses, from: 0, to: 1, k: 1},
		{kind: sets, from: 1, k: 2, tag: 1}, {kind: sets, from: 0, k: 2, tag: 2}, {kind: sets, from: 1, k: 1, tag: 3},
		{kind: downs, from: 1}, {kind: ups, from: 1}, {kind: downs, from: 0}, {kind: ticks},
	}
}

// Promises 19.1 to 19.6: all rows of a few calls.
func TestAllRows(t *testing.T) {
	const most = 4
	var grow func(row []call)
	grow = func(row []call) {
		b := newBoth(t, 2)
		b.all(row)
		b.end(3)
		if len(row) < most {
			for _, c := range choices() {
				grow(append(row[:len(row):len(row)], c))
			}
		}
	}
	grow(nil)
}

// drawn is a call of these nodes, now and then of one that is none, or of a number that is out of what may be.
func drawn(draw func(int) int, nodes, clock int) call {
	c := call{kind: draw(sets), from: draw(nodes), to: draw(nodes), k: draw(3), body: "abcdefgh"[draw(9):]}
	switch draw(8) {
	case 0:
		c.kind = sets + draw(kinds-sets)
	case 1:
		c.kind = ticks
	case 2, 3:
		c.kind = sends
	}
	if c.kind == sets {
		c.k, c.tag = clock+draw(9), draw(1<<20)
	}
	switch draw(60) {
	case 0:
		c.from = []int{-1, nodes, math.MinInt, math.MaxInt}[draw(4)]
	case 1:
		c.to = []int{-1, nodes, math.MinInt, math.MaxInt}[draw(4)]
	case 2:
		c.k = []int{-1, 1 << 31, math.MinInt, math.MaxInt, api.MaxTicks}[draw(5)]
	case 3:
		c.body = bytesOf(api.MaxBytes + draw(2))
	}
	return c
}

// Promises 19.1 to 19.6: drawn calls in long rows, of few nodes and of as many as may be.
func TestDrawn(t *testing.T) {
	draw := tools.Noise()
	for _, nodes := range []int{1, 2, 3, 4, 12, api.MaxShards + 1} {
		for range 40 {
			b := newBoth(t, nodes)
			for step := range 400 {
				b.do(drawn(draw, nodes, b.p.clock))
				if step%40 == 0 {
					b.look()
				}
			}
			b.end(12)
		}
	}
}

// Promises 19.2 to 19.6: drawn calls of a bag that is nearly full, of timers that are nearly as many as may be, and of a clock that is nearly at its end.
func TestDrawnNearTheEnds(t *testing.T) {
	draw := tools.Noise()
	for range 4 {
		b := newBoth(t, 2)
		b.n.now, b.p.clock = api.MaxTicks-40, api.MaxTicks-40
		for i := range api.MaxLetters - 3 {
			b.do(call{kind: sends, from: 0, to: 1, body: strconv.Itoa(i)})
		}
		for i := range api.MaxItems - 3 {
			b.do(call{kind: sets, from: i % 2, k: api.MaxTicks - draw(30), tag: i})
		}
		for range 150 {
			b.do(drawn(draw, 2, b.p.clock))
		}
		b.end(40)
	}
}

// R5: calls that are refused change nothing that a later call could tell, whatever is done ahead of them and behind.
func TestRefusedChangesNothing(t *testing.T) {
	draw := tools.Noise()
	refused := 0
	for range 300 {
		n, other := newNet(t, 3), newNet(t, 3)
		for range 60 {
			c := drawn(draw, 3, n.Now())
			a := made(n, c)
			if a.e != api.OK {
				refused++
				if a.body != "" || len(a.timers) > 0 {
					t.Fatalf("%v: %q, %v beside %v", c, a.body, a.timers, a.e)
				}
				continue
			}
			if again := made(other, c); !a.same(again) {
				t.Fatalf("%v: %v, and %v where nothing was refused", c, a, again)
			}
			wantLinks(t, other, n.Links()...)
			letters, _ := n.Bag(0, 1)
			wantBag(t, other, 0, 1, letters...)
		}
	}
	if refused < 1000 {
		t.Error("refused:", refused)
	}
}

// R7: the same calls tell the same.
func TestSameCalls(t *testing.T) {
	draw := tools.Noise()
	for range 30 {
		a, b := newNet(t, 12), newNet(t, 12)
		for range 400 {
			c := drawn(draw, 12, a.Now())
			if x, again := made(a, c), made(b, c); !x.same(again) {
				t.Fatalf("%v: %v, then %v", c, x, again)
			}
			wantLinks(t, a, b.Links()...)
		}
	}
}

// Promise 19.6: as many letters as were sent and copied are taken, lost, or there; and so it is of each one that was sent.
func TestNoLetterIsGone(t *testing.T) {
	draw := tools.Noise()
	for range 40 {
		n := newNet(t, 4)
		came, went := map[string]int{}, map[string]int{}
		for step := range 500 {
			c := drawn(draw, 4, n.Now())
			c.body = strconv.Itoa(step)
			bag, _ := n.Bag(c.from, c.to)
			a := made(n, c)
			if a.e != api.OK {
				continue
			}
			switch c.kind {
			case sends:
				came[c.body]++
			case copies:
				came[bag[c.k]]++
			case takes:
				went[a.body]++
			case loses:
				went[bag[c.k]]++
			}
		}
		for _, link := range n.Links() {
			bag, _ := n.Bag(link[0], link[1])
			for _, body := range bag {
				went[body]++
			}
		}
		for body, many := range came {
			if went[body] != many {
				t.Errorf("the letter %s came %d times and went %d times, or is there", body, many, went[body])
			}
		}
		if len(came) < 50 || len(went) != len(came) {
			t.Errorf("%d letters came, %d went or are there", len(came), len(went))
		}
	}
}

// Promises 19.1 to 19.6, P1: rows of calls that are made up: of each its kind, its two nodes, and a number.
func FuzzNet(f *testing.F) {
	f.Add(byte(3), []byte{0, 0, 1, 1, 0, 0, 1, 2, 2, 0, 1, 0, 1, 0, 1, 1, 3, 0, 1, 0}, "body")
	f.Add(byte(2), []byte{4, 1, 0, 2, 4, 0, 0, 2, 7, 0, 0, 0, 5, 1, 0, 0, 7, 0, 0, 0, 6, 1, 0, 0}, "")
	f.Add(byte(65), []byte{0, 64, 63, 9, 1, 64, 63, 0, 0, 65, 0, 0, 4, 9, 9, 255}, "xyz")
	f.Add(byte(0), []byte{}, "")
	f.Fuzz(func(t *testing.T, nodes byte, rows []byte, text string) {
		b := newBoth(t, int(nodes))
		if b.n == nil {
			return
		}
		for ; len(rows) >= 4; rows = rows[4:] {
			k := int(int8(rows[3]))
			c := call{kind: int(rows[0]) % kinds, from: int(int8(rows[1])), to: int(int8(rows[2])), k: k, body: text[:min(len(text), int(rows[3]))], tag: k}
			if c.kind == sets {
				c.k += b.p.clock
			}
			b.do(c)
		}
		b.end(3)
	})
}
