package net

import (
	"slices"
	"testing"

	"flyover/api"
)

// letter lies in the bag of its link.
type letter struct {
	from, to int
	body     string
}

// plain is a second reading of the chapter: the letters of all bags in the order in which they were put in, and the timers in the order in which they were set.
type plain struct {
	nodes   int
	isDown  []int
	letters []letter
	timers  []api.Timer
	clock   int
}

func plainNew(nodes int) (*plain, api.Errno) {
	if nodes < 1 || nodes > 65 {
		return nil, api.ErrRange
	}
	return &plain{nodes: nodes}, api.OK
}

type refusal struct {
	holds bool
	e     api.Errno
}

// first is the first of these that applies.
func first(refusals ...refusal) api.Errno {
	for _, r := range refusals {
		if r.holds {
			return r.e
		}
	}
	return api.OK
}

func (p *plain) noNode(node int) bool { return node < 0 || node >= p.nodes }

func (p *plain) noLink(from, to int) refusal {
	return refusal{p.noNode(from) || p.noNode(to) || from == to, api.ErrNode}
}

func (p *plain) down(node int) refusal {
	return refusal{slices.Contains(p.isDown, node), api.ErrDown}
}

// places are where the letters of a bag stand among all.
func (p *plain) places(from, to int) []int {
	var l []int
	for at, x := range p.letters {
		if x.from == from && x.to == to {
			l = append(l, at)
		}
	}
	return l
}

func (p *plain) full(from, to int) refusal {
	return refusal{len(p.places(from, to)) >= 4096, api.ErrLong}
}

func (p *plain) none(from, to, k int) refusal {
	return refusal{k < 0 || k >= len(p.places(from, to)), api.ErrNone}
}

func (p *plain) Send(from, to int, body string) api.Errno {
	e := first(p.noLink(from, to), refusal{len(body) > 262144, api.ErrLong}, p.down(from), p.full(from, to))
	if e == api.OK {
		p.letters = append(p.letters, letter{from, to, body})
	}
	return e
}

func (p *plain) out(from, to, k int) string {
	at := p.places(from, to)[k]
	body := p.letters[at].body
	p.letters = slices.Delete(p.letters, at, at+1)
	return body
}

func (p *plain) Take(from, to, k int) (string, api.Errno) {
	if e := first(p.noLink(from, to), p.none(from, to, k), p.down(to)); e != api.OK {
		return "", e
	}
	return p.out(from, to, k), api.OK
}

func (p *plain) Copy(from, to, k int) api.Errno {
	e := first(p.noLink(from, to), p.none(from, to, k), p.full(from, to))
	if e == api.OK {
		p.letters = append(p.letters, p.letters[p.places(from, to)[k]])
	}
	return e
}

func (p *plain) Lose(from, to, k int) api.Errno {
	e := first(p.noLink(from, to), p.none(from, to, k))
	if e == api.OK {
		p.out(from, to, k)
	}
	return e
}

func (p *plain) Bag(from, to int) ([]string, api.Errno) {
	if e := first(p.noLink(from, to)); e != api.OK {
		return nil, e
	}
	var l []string
	for _, at := range p.places(from, to) {
		l = append(l, p.letters[at].body)
	}
	return l, api.OK
}

func (p *plain) Links() [][2]int {
	var l [][2]int
	for from := range p.nodes {
		for to := range p.nodes {
			if slices.ContainsFunc(p.letters, func(x letter) bool { return x.from == from && x.to == to }) {
				l = append(l, [2]int{from, to})
			}
		}
	}
	return l
}

func (p *plain) Down(node int) api.Errno {
	e := first(refusal{p.noNode(node), api.ErrNode}, p.down(node))
	if e != api.OK {
		return e
	}
	p.isDown = append(p.isDown, node)
	var left []api.Timer
	for _, x := range p.timers {
		if x.Node != node {
			left = append(left, x)
		}
	}
	p.timers = left
	return e
}

func (p *plain) Up(node int) api.Errno {
	e := first(refusal{p.noNode(node), api.ErrNode}, refusal{!slices.Contains(p.isDown, node), api.ErrDown})
	if e == api.OK {
		p.isDown = slices.DeleteFunc(p.isDown, func(x int) bool { return x == node })
	}
	return e
}

func (p *plain) Set(node, at, tag int) api.Errno {
	e := first(refusal{p.noNode(node), api.ErrNode}, p.down(node), refusal{at <= p.clock || at > 1073741824, api.ErrRange}, refusal{len(p.timers) >= 16384, api.ErrLong})
	if e == api.OK {
		p.timers = append(p.timers, api.Timer{Node: node, At: at, Tag: tag})
	}
	return e
}

func (p *plain) Tick() ([]api.Timer, api.Errno) {
	if p.clock >= 1073741824 {
		return nil, api.ErrRange
	}
	p.clock++
	var due, left []api.Timer
	for node := range p.nodes {
		for _, x := range p.timers {
			if x.Node == node && x.At == p.clock {
				due = append(due, x)
			}
		}
	}
	for _, x := range p.timers {
		if x.At != p.clock {
			left = append(left, x)
		}
	}
	p.timers = left
	return due, api.OK
}

func (p *plain) Now() int { return p.clock }

// calls is what a net and its second reading are both called by.
type calls interface {
	Send(from, to int, body string) api.Errno
	Take(from, to, k int) (string, api.Errno)
	Copy(from, to, k int) api.Errno
	Lose(from, to, k int) api.Errno
	Bag(from, to int) ([]string, api.Errno)
	Links() [][2]int
	Down(node int) api.Errno
	Up(node int) api.Errno
	Set(node, at, tag int) api.Errno
	Tick() ([]api.Timer, api.Errno)
	Now() int
}

// The kinds of calls that change a net.
const (
	sends = iota
	takes
	copies
	loses
	sets
	downs
	ups
	ticks
	kinds
)

// call is one of these: of those of one node that is from; k is a timer's time, too.
type call struct {
	kind, from, to, k int
	body              string
	tag               int
}

type answer struct {
	body   string
	timers []api.Timer
	e      api.Errno
}

func (a answer) same(b answer) bool {
	return a.body == b.body && a.e == b.e && slices.Equal(a.timers, b.timers)
}

func made(n calls, c call) (a answer) {
	switch c.kind {
	case sends:
		a.e = n.Send(c.from, c.to, c.body)
	case takes:
		a.body, a.e = n.Take(c.from, c.to, c.k)
	case copies:
		a.e = n.Copy(c.from, c.to, c.k)
	case loses:
		a.e = n.Lose(c.from, c.to, c.k)
	case sets:
		a.e = n.Set(c.from, c.k, c.tag)
	case downs:
		a.e = n.Down(c.from)
	case ups:
		a.e = n.Up(c.from)
	case ticks:
		a.timers, a.e = n.Tick()
	}
	return a
}

// both is a net and what the chapter says of it, called side by side.
type both struct {
	t     *testing.T
	n     *Net
	p     *plain
	calls []call
}

func newBoth(t *testing.T, nodes int) *both {
	t.Helper()
	n, e := New(nodes)
	p, want := plainNew(nodes)
	if e != want || (n == nil) != (p == nil) {
		t.Fatalf("New(%d): %v, %v, want %v", nodes, n, e, want)
	}
	return &both{t: t, n: n, p: p}
}

func (b *both) do(c call) api.Errno {
	b.t.Helper()
	b.calls = append(b.calls, c)
	a := made(b.n, c)
	if want := made(b.p, c); !a.same(want) {
		b.t.Fatalf("%v: %.70q, %v, %v, want %.70q, %v, %v", b.told(), a.body, a.timers, a.e, want.body, want.timers, want.e)
	}
	return a.e
}

func (b *both) all(calls []call) {
	b.t.Helper()
	for _, c := range calls {
		b.do(c)
	}
}

// told is the last of the calls, with little of long bodies.
func (b *both) told() []call {
	l := slices.Clone(b.calls[max(0, len(b.calls)-20):])
	for i := range l {
		l[i].body = l[i].body[:min(70, len(l[i].body))]
	}
	return l
}

// look holds all that can be told of the net, without changing it, against what should be.
func (b *both) look() {
	b.t.Helper()
	if b.n.Now() != b.p.Now() {
		b.t.Fatalf("%v: Now: %d, want %d", b.told(), b.n.Now(), b.p.Now())
	}
	links := b.n.Links()
	if want := b.p.Links(); !slices.Equal(links, want) {
		b.t.Fatalf("%v: Links: %v, want %v", b.told(), links, want)
	}
	for from := range min(b.p.nodes, 4) {
		for to := range min(b.p.nodes, 4) {
			links = append(links, [2]int{from, to})
		}
	}
	for _, link := range append(links, [2]int{-1, 0}, [2]int{0, b.p.nodes}) {
		letters, e := b.n.Bag(link[0], link[1])
		if want, e2 := b.p.Bag(link[0], link[1]); !slices.Equal(letters, want) || e != e2 {
			b.t.Fatalf("%v: Bag of %v: %d letters (%.300q), %v, want %d (%.300q), %v", b.told(), link, len(letters), letters, e, len(want), want, e2)
		}
	}
}

// end makes, one behind the other, some calls that tell what else there is: which timers come within some ticks, and which nodes are up.
func (b *both) end(some int) {
	b.t.Helper()
	b.look()
	for range some {
		b.do(call{kind: ticks})
	}
	for node := range b.p.nodes {
		b.do(call{kind: ups, from: node})
	}
	b.look()
}
