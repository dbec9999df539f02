package shard

import (
	"fmt"
	"slices"
	"testing"

	"flyover/api"
	"flyover/files"
	"flyover/mess"
	tools "flyover/plain"
	"flyover/store"
)

// plain is a second reading of the chapter, with a store on a disk of its own, into which it puts just what the chapter tells. Its distances are those of package plain.
type plain struct {
	g api.Graph
	n api.Nest
	s *store.Store
}

func plainNew(g api.Graph, n api.Nest, d *files.Disk) (*plain, api.Errno) {
	s, e := store.Open(d)
	if e != api.OK {
		return nil, e
	}
	return &plain{g, n, s}, api.OK
}

// isCell answers whether there is a cell.
func (p *plain) isCell(level, cell int) bool {
	return level >= 1 && level <= len(p.n.Cells) && slices.Contains(p.n.Cells[level-1], cell)
}

// mayBe is chapter 13's Check.
func (p *plain) mayBe(m api.Matrix) bool {
	if !p.isCell(m.Level, m.Cell) || m.Epoch < 0 || m.Epoch > 1<<30 {
		return false
	}
	b := len(tools.Boundary(p.g, p.n, m.Level, m.Cell))
	return len(m.D) == b*b
}

// held is a list of one matrix, or of none.
func (p *plain) held(level, cell int) []api.Matrix {
	value, e := p.s.Get(fmt.Sprintf("m%d.%d", level, cell))
	if e != api.OK {
		return nil
	}
	x, f := mess.Decode(value)
	m := api.Matrix{Level: x.Level, Cell: x.Cell, Epoch: x.Epoch, D: x.D}
	if f.Code != api.OK || x.Kind != 2 || m.Level != level || m.Cell != cell || !p.mayBe(m) {
		return nil
	}
	return []api.Matrix{m}
}

func (p *plain) Held() []api.Matrix {
	var all []api.Matrix
	for level := 1; level <= len(p.n.Cells); level++ {
		for cell := range tools.Many(p.n, level) {
			all = append(all, p.held(level, cell)...)
		}
	}
	return all
}

func (p *plain) Receive(body string) ([]string, api.Errno) {
	x, f := mess.Decode(body)
	switch {
	case f.Code == api.OK && x.Kind == 1:
		return p.job(x)
	case f.Code == api.OK && x.Kind == 3:
		return p.part(x)
	}
	return nil, api.ErrMessage
}

func doneOf(m api.Matrix) (string, api.Errno) {
	return mess.Encode(api.Message{Kind: 2, Epoch: m.Epoch, Level: m.Level, Cell: m.Cell, D: m.D})
}

func (p *plain) job(x api.Message) ([]string, api.Errno) {
	if !p.isCell(x.Level, x.Cell) {
		return nil, api.ErrMessage
	}
	if l := p.held(x.Level, x.Cell); len(l) == 1 && l[0].Epoch > x.Epoch {
		return nil, api.OK
	} else if len(l) == 1 && l[0].Epoch == x.Epoch {
		reply, e := doneOf(l[0])
		return []string{reply}, e
	}
	if !p.mayBeDone(x) {
		return nil, api.ErrMessage
	}
	m := api.Matrix{Level: x.Level, Cell: x.Cell, Epoch: x.Epoch}
	if x.Level == 1 {
		m.D = tools.Whole(p.weighed(p.inner(x.Cell), x.Weights), p.n, 1, x.Cell)
	} else {
		m.D = tools.Up(p.weighed(tools.Between(p.g, p.n, x.Level, x.Cell), x.Weights), p.n, x.Level, x.Cell, x.Mats)
	}
	reply, e := doneOf(m)
	if e != api.OK {
		return nil, api.ErrMessage
	}
	if e := p.s.Put(fmt.Sprintf("m%d.%d", x.Level, x.Cell), reply); e != api.OK {
		return nil, e
	}
	return []string{reply}, api.OK
}

func (p *plain) inner(cell int) []int { return tools.Inner(p.g, p.n, 1, cell) }

// mayBeDone is what chapter 13's Leaf and Up take.
func (p *plain) mayBeDone(x api.Message) bool {
	if x.Level == 1 {
		return len(x.Mats) == 0 && len(x.Weights) == len(p.inner(x.Cell))
	}
	children := tools.Children(p.n, x.Level, x.Cell)
	if len(x.Weights) != len(tools.Between(p.g, p.n, x.Level, x.Cell)) || len(x.Mats) != len(children) {
		return false
	}
	for i, m := range x.Mats {
		if m.Level != x.Level-1 || m.Cell != children[i] || m.Epoch > x.Epoch || !p.mayBe(m) {
			return false
		}
	}
	return true
}

// weighed is the graph, of which these arcs alone have weights that are told.
func (p *plain) weighed(ids []int, weights []uint32) api.Graph {
	h := api.Graph{N: p.g.N, Arcs: slices.Clone(p.g.Arcs)}
	for at, id := range ids {
		h.Arcs[id].Weight = weights[at]
	}
	return h
}

func (p *plain) part(x api.Message) ([]string, api.Errno) {
	if x.Vertex >= p.g.N || x.Other >= p.g.N {
		return nil, api.ErrMessage
	}
	home := p.n.Cells[0][x.Vertex]
	ids := p.inner(home)
	if len(ids) != len(x.Weights) {
		return nil, api.ErrMessage
	}
	ways := tools.Ways(p.weighed(ids, x.Weights), ids)
	if x.Back == 1 {
		for i, w := range ways {
			ways[i].From, ways[i].To = w.To, w.From
		}
	}
	far := tools.Far(p.g.N, ways, x.Vertex)
	var d []api.Dist
	for _, v := range tools.Boundary(p.g, p.n, 1, home) {
		d = append(d, far[v])
	}
	direct := api.Inf
	if p.n.Cells[0][x.Other] == home {
		direct = far[x.Other]
	}
	reply, e := mess.Encode(api.Message{Kind: 4, Query: x.Query, Epoch: x.Epoch, Back: x.Back, D: append(d, direct)})
	return []string{reply}, e
}

// The kinds of calls.
const (
	receives = iota
	news
	fuses
	crashes
	plants
	compacts
	kinds
)

// call is one of these: the last two are of a store that is opened on the disk behind the shard's back.
type call struct {
	kind      int
	key, text string
	n         int
	draws     []int
}

// both are a disk with a shard on it, and the second reading on its own disk, called side by side. Neither is asked any more once its disk was down, crashed, or changed by others: then both are made anew.
type both struct {
	t     *testing.T
	g     api.Graph
	n     api.Nest
	d, d2 *files.Disk
	s     *Shard
	p     *plain
	calls []call
}

func newBoth(t *testing.T, g api.Graph, n api.Nest, calls ...call) *both {
	t.Helper()
	b := &both{t: t, g: g, n: n, d: files.New(), d2: files.New()}
	b.do(call{kind: news})
	for _, c := range calls {
		b.do(c)
	}
	return b
}

// do answers the replies of what is received.
func (b *both) do(c call) ([]string, api.Errno) {
	b.t.Helper()
	b.calls = append(b.calls, c)
	replies, expected, e, want := b.made(c)
	if e != want || !slices.Equal(replies, expected) {
		b.t.Fatalf("%s: %.200q, %v, want %.200q, %v", b.told(), replies, e, expected, want)
	}
	if e == api.ErrDown || c.kind == crashes || c.kind >= plants {
		b.s, b.p = nil, nil
	}
	return replies, e
}

func (b *both) made(c call) (replies, expected []string, e, want api.Errno) {
	b.t.Helper()
	switch c.kind {
	case receives:
		if b.s == nil {
			return nil, nil, api.OK, api.OK
		}
		replies, e = b.s.Receive(c.text)
		expected, want = b.p.Receive(c.text)
		return replies, expected, e, want
	case news:
		b.s, e = New(b.g, b.n, b.d)
		b.p, want = plainNew(b.g, b.n, b.d2)
		if (b.s == nil) != (b.p == nil) {
			b.t.Fatalf("%s: a shard: %v, want %v", b.told(), b.s != nil, b.p != nil)
		}
		return nil, nil, e, want
	}
	return nil, nil, behind(b.d, c), behind(b.d2, c)
}

// behind is what becomes of a disk behind its shard's back.
func behind(d *files.Disk, c call) api.Errno {
	switch c.kind {
	case fuses:
		return d.Fuse(c.n)
	case crashes:
		return d.Crash(c.draws)
	}
	s, e := store.Open(d)
	switch {
	case e != api.OK:
		return e
	case c.kind == plants:
		return s.Put(c.key, c.text)
	}
	return s.Compact()
}

// told is the last of the calls, with little of long texts.
func (b *both) told() string {
	text := ""
	for _, c := range b.calls[max(0, len(b.calls)-12):] {
		if m, f := mess.Decode(c.text); f.Code == api.OK {
			text += fmt.Sprintf("{%d %.70q %.200s %d %v} ", c.kind, c.key, fmt.Sprint(m), c.n, c.draws)
		} else {
			text += fmt.Sprintf("{%d %.70q %.70q %d %v} ", c.kind, c.key, c.text, c.n, c.draws)
		}
	}
	return text
}

// look holds all files, and what the shard holds, against what should be; none of that changes a thing.
func (b *both) look() {
	b.t.Helper()
	names := b.d.Names()
	if want := b.d2.Names(); !slices.Equal(names, want) {
		b.t.Fatalf("%s: files %q, want %q", b.told(), names, want)
	}
	for _, name := range names {
		has, _ := b.d.Read(name)
		if want, _ := b.d2.Read(name); has != want {
			b.t.Fatalf("%s: %s has %d bytes (%.80q), want %d (%.80q)", b.told(), name, len(has), has, len(want), want)
		}
	}
	if b.s == nil {
		return
	}
	wantSame(b.t, b.told(), b.s.Held(), b.p.Held())
}

func wantSame(t *testing.T, what string, got, want []api.Matrix) {
	t.Helper()
	if !slices.EqualFunc(got, want, same) {
		t.Fatalf("%s: Held: %.300s, want %.300s", what, fmt.Sprint(got), fmt.Sprint(want))
	}
}

func same(a, b api.Matrix) bool {
	return a.Level == b.Level && a.Cell == b.Cell && a.Epoch == b.Epoch && slices.Equal(a.D, b.D)
}

// end crashes, whereby it is seen what was synced, and makes both anew.
func (b *both) end(draws ...int) {
	b.t.Helper()
	b.do(call{kind: crashes, draws: draws})
	b.look()
	b.do(call{kind: news})
	b.look()
}
