package store

import (
	"encoding/binary"
	"hash/crc32"
	"slices"
	"strings"
	"testing"

	"flyover/api"
	"flyover/files"
)

// pair is a key and its value.
type pair struct{ key, value string }

// bytes are the pair's record, by the library's numbers and sums.
func (p pair) bytes() string { return framed(coded(p.key, p.value)) }

// coded is an encoded list of texts.
func coded(texts ...string) string {
	b := binary.AppendUvarint([]byte{api.KList}, uint64(len(texts)))
	for _, text := range texts {
		b = binary.AppendUvarint(append(b, api.KText), uint64(len(text)))
		b = append(b, text...)
	}
	return string(b)
}

func framed(body string) string {
	b := binary.LittleEndian.AppendUint32(nil, uint32(len(body)))
	b = binary.LittleEndian.AppendUint32(b, crc32.ChecksumIEEE([]byte(body)))
	return string(b) + body
}

func inRow(pairs ...pair) string {
	var b strings.Builder
	for _, p := range pairs {
		b.WriteString(p.bytes())
	}
	return b.String()
}

// first is the pair whose record b begins with; a record is one if that pair is written just so.
func first(b string) (p pair, is bool) {
	const ahead = 4 + 4 + 2 + 2 // the frame's head, the list's, and the key's
	if len(b) < ahead {
		return p, false
	}
	size := int(b[ahead-1])
	if size < 1 || size > 64 || len(b) < ahead+size+2 {
		return p, false
	}
	many, head := binary.Uvarint([]byte(b[ahead+size+1:]))
	from := ahead + size + 1 + head
	if head <= 0 || many > uint64(len(b)-from) || from+int(many)-8 > 262144 {
		return p, false
	}
	p = pair{b[ahead : ahead+size], b[from : from+int(many)]}
	return p, strings.HasPrefix(b, p.bytes())
}

// all are the pairs of the records that b begins with, and what stands behind these.
func all(b string) (pairs []pair, rest string) {
	for {
		p, is := first(b)
		if !is {
			return pairs, b
		}
		pairs, b = append(pairs, p), b[len(p.bytes()):]
	}
}

// with is, by keys, what a store has that had these and takes some more, one behind the other.
func with(had []pair, more ...pair) []pair {
	had = slices.Clone(had)
	for _, p := range more {
		at, there := slices.BinarySearchFunc(had, p, func(a, b pair) int { return strings.Compare(a.key, b.key) })
		if there {
			had[at] = p
		} else {
			had = slices.Insert(had, at, p)
		}
	}
	return had
}

// said is what a store has by what its files say.
func said(d *files.Disk) []pair {
	snap, _ := d.Read("snap")
	log, _ := d.Read("log")
	held, _ := all(snap)
	put, _ := all(log)
	return with(with(nil, held...), put...)
}

// plain is a second reading of the chapter, on a disk of its own, on which it makes just the changes that the chapter tells.
type plain struct {
	d   *files.Disk
	has []pair
}

type change func() api.Errno

// made makes one change behind the other, till one is refused.
func made(changes ...change) api.Errno {
	for _, c := range changes {
		if e := c(); e != api.OK {
			return e
		}
	}
	return api.OK
}

func plainOpen(d *files.Disk) (*plain, api.Errno) {
	snap, _ := d.Read("snap")
	pairs, rest := all(snap)
	for i := range pairs {
		if i > 0 && pairs[i].key <= pairs[i-1].key {
			return nil, api.ErrBroken
		}
	}
	if rest != "" {
		return nil, api.ErrBroken
	}
	p := &plain{d, said(d)}
	var l []change
	if slices.Contains(d.Names(), "temp") {
		l = append(l, func() api.Errno { return d.Remove("temp") })
	}
	log, _ := d.Read("log")
	if _, rest := all(log); rest != "" {
		l = append(l, p.renewed("log", strings.TrimSuffix(log, rest))...)
	}
	if !slices.Contains(d.Names(), "log") {
		l = append(l, p.emptied()...)
	}
	if e := made(l...); e != api.OK {
		return nil, e
	}
	return p, api.OK
}

func (p *plain) renewed(name, data string) []change {
	return []change{
		func() api.Errno { return p.d.Write("temp", data) },
		func() api.Errno { return p.d.Sync("temp") },
		func() api.Errno { return p.d.Rename("temp", name) },
	}
}

func (p *plain) emptied() []change {
	return []change{
		func() api.Errno { return p.d.Write("log", "") },
		func() api.Errno { return p.d.Sync("log") },
	}
}

func (p *plain) Put(key, value string) api.Errno {
	then := with(p.has, pair{key, value})
	switch {
	case key == "" || len(key) > 64:
		return api.ErrName
	case len(value) > 65536 || len(inRow(then...)) > 262144:
		return api.ErrLong
	}
	var l []change
	data := pair{key, value}.bytes()
	if log, _ := p.d.Read("log"); len(log)+len(data) > 262144 {
		l = append(l, p.Compact)
	}
	l = append(l, func() api.Errno { return p.d.Append("log", data) }, func() api.Errno { return p.d.Sync("log") })
	if e := made(l...); e != api.OK {
		return e
	}
	p.has = then
	return api.OK
}

func (p *plain) Compact() api.Errno {
	return made(append(p.renewed("snap", inRow(p.has...)), p.emptied()...)...)
}

// The kinds of calls.
const (
	puts = iota
	compacts
	opens
	fuses
	crashes
	writes
	appends
	removes
	kinds
)

// call is one of these: the last three are of files, by their names, behind the store's back.
type call struct {
	kind      int
	key, text string
	n         int
	draws     []int
}

// both are a disk with a store on it, and the second reading on its own disk, called side by side. Neither is asked any more once its disk was down, crashed, or changed by others: then both are opened anew.
type both struct {
	t     *testing.T
	d, d2 *files.Disk
	s     *Store
	p     *plain
	calls []call
}

func newBoth(t *testing.T, calls ...call) *both {
	t.Helper()
	b := &both{t: t, d: files.New(), d2: files.New()}
	for _, c := range calls {
		b.do(c)
	}
	return b
}

// opened are both on disks on which nothing was ahead.
func opened(t *testing.T, calls ...call) *both {
	t.Helper()
	b := newBoth(t, call{kind: opens})
	for _, c := range calls {
		b.do(c)
	}
	return b
}

func (b *both) do(c call) api.Errno {
	b.t.Helper()
	b.calls = append(b.calls, c)
	e, want := b.made(c)
	if e != want {
		b.t.Fatalf("%v: %v, want %v", b.told(), e, want)
	}
	if e == api.ErrDown || c.kind == crashes || c.kind >= writes {
		b.s, b.p = nil, nil
	}
	return e
}

func (b *both) made(c call) (e, want api.Errno) {
	b.t.Helper()
	switch c.kind {
	case puts:
		if b.s == nil {
			return api.OK, api.OK
		}
		return b.s.Put(c.key, c.text), b.p.Put(c.key, c.text)
	case compacts:
		if b.s == nil {
			return api.OK, api.OK
		}
		return b.s.Compact(), b.p.Compact()
	case opens:
		b.s, e = Open(b.d)
		b.p, want = plainOpen(b.d2)
		if (b.s == nil) != (b.p == nil) {
			b.t.Fatalf("%v: a store: %v, want %v", b.told(), b.s != nil, b.p != nil)
		}
		return e, want
	}
	return disked(b.d, c), disked(b.d2, c)
}

// disked is what a disk answers of the calls that go to it.
func disked(d *files.Disk, c call) api.Errno {
	switch c.kind {
	case fuses:
		return d.Fuse(c.n)
	case crashes:
		return d.Crash(c.draws)
	case writes:
		return d.Write(c.key, c.text)
	case appends:
		return d.Append(c.key, c.text)
	}
	return d.Remove(c.key)
}

// told is the last of the calls, with little of long texts.
func (b *both) told() []call {
	l := slices.Clone(b.calls[max(0, len(b.calls)-20):])
	for i := range l {
		l[i].key, l[i].text = l[i].key[:min(70, len(l[i].key))], l[i].text[:min(70, len(l[i].text))]
	}
	return l
}

// look holds all files, and what the store tells if there is one, against what should be; none of that changes a thing.
func (b *both) look() {
	b.t.Helper()
	names := b.d.Names()
	if want := b.d2.Names(); !slices.Equal(names, want) {
		b.t.Fatalf("%v: files %q, want %q", b.told(), names, want)
	}
	for _, name := range names {
		has, _ := b.d.Read(name)
		if want, _ := b.d2.Read(name); has != want {
			b.t.Fatalf("%v: %s has %d bytes (%.80q), want %d (%.80q)", b.told(), name, len(has), has, len(want), want)
		}
	}
	if b.s == nil {
		return
	}
	if has := told(b.t, b.s); !slices.Equal(has, b.p.has) {
		b.t.Fatalf("%v: it has %.300q, want %.300q", b.told(), has, b.p.has)
	}
	if want := said(b.d2); !slices.Equal(b.p.has, want) {
		b.t.Fatalf("%v: the files say %.300q, the store %.300q", b.told(), want, b.p.has)
	}
	for _, key := range []string{"none", "", "\x00none", strings.Repeat("k", 65)} {
		want := api.ErrName
		if mayNone := len(key) > 0 && len(key) < 65; mayNone {
			want = api.ErrNone
		}
		if value, e := b.s.Get(key); value != "" || e != want {
			b.t.Fatalf("%v: Get(%q): %.80q, %v, want %v", b.told(), key, value, e, want)
		}
	}
}

// told is all that a store tells.
func told(t *testing.T, s *Store) []pair {
	t.Helper()
	var l []pair
	for _, key := range s.Keys() {
		value, e := s.Get(key)
		if e != api.OK {
			t.Fatalf("Get(%q): %v", key, e)
		}
		l = append(l, pair{key, value})
	}
	return l
}

// end crashes, whereby it is seen what was synced, and opens: twice, since the second time there is nothing to mend.
func (b *both) end(draws ...int) {
	b.t.Helper()
	b.do(call{kind: crashes, draws: draws})
	b.look()
	for range 2 {
		b.do(call{kind: opens})
		b.look()
	}
}
