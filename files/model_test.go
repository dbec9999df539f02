package files

import (
	"slices"
	"strings"
	"testing"

	"flyover/api"
)

// page is a file as the chapter tells it; safe is nil, if nothing is.
type page struct {
	name, has string
	safe      *string
}

// plain is a second reading of the chapter: a list of pages, by names; fuse is nil, if there is none.
type plain struct {
	pages []page
	down  bool
	fuse  *int
}

func (p *plain) at(name string) int {
	return slices.IndexFunc(p.pages, func(x page) bool { return x.name == name })
}

func wrongName(name string) bool {
	return name == "" || len(name) > 64 || strings.ContainsFunc(name, func(r rune) bool {
		return !strings.ContainsRune("abcdefghijklmnopqrstuvwxyz0123456789", r)
	})
}

// first is the first of these that applies; whether the disk is down is asked only where none does.
func (p *plain) first(refusals ...refusal) api.Errno {
	for _, r := range refusals {
		if r.holds {
			return r.e
		}
	}
	if p.fuse != nil && *p.fuse == 0 {
		p.down = true
	}
	if p.down {
		return api.ErrDown
	}
	if p.fuse != nil {
		*p.fuse--
	}
	return api.OK
}

type refusal struct {
	holds bool
	e     api.Errno
}

func (p *plain) Write(name, data string) api.Errno {
	at := p.at(name)
	e := p.first(refusal{wrongName(name), api.ErrName}, refusal{len(data) > 262144, api.ErrLong}, refusal{at < 0 && len(p.pages) >= 64, api.ErrLong})
	if e != api.OK {
		return e
	}
	if at >= 0 {
		p.pages[at].has = data
		return e
	}
	p.add(page{name: name, has: data})
	return e
}

func (p *plain) add(x page) {
	p.pages = append(p.pages, x)
	slices.SortFunc(p.pages, func(a, b page) int { return strings.Compare(a.name, b.name) })
}

func (p *plain) Append(name, data string) api.Errno {
	at := p.at(name)
	e := p.first(refusal{wrongName(name), api.ErrName}, refusal{at < 0, api.ErrNone}, refusal{at >= 0 && len(p.pages[max(at, 0)].has+data) > 262144, api.ErrLong})
	if e == api.OK {
		p.pages[at].has += data
	}
	return e
}

func (p *plain) Sync(name string) api.Errno {
	at := p.at(name)
	e := p.first(refusal{wrongName(name), api.ErrName}, refusal{at < 0, api.ErrNone})
	if e == api.OK {
		has := p.pages[at].has
		p.pages[at].safe = &has
	}
	return e
}

func (p *plain) Rename(from, to string) api.Errno {
	at := p.at(from)
	e := p.first(refusal{wrongName(from), api.ErrName}, refusal{wrongName(to), api.ErrName}, refusal{at < 0, api.ErrNone})
	if e != api.OK || from == to {
		return e
	}
	x := p.pages[at]
	x.name = to
	p.pages = slices.DeleteFunc(p.pages, func(y page) bool { return y.name == from || y.name == to })
	p.add(x)
	return e
}

func (p *plain) Remove(name string) api.Errno {
	at := p.at(name)
	e := p.first(refusal{wrongName(name), api.ErrName}, refusal{at < 0, api.ErrNone})
	if e == api.OK {
		p.pages = slices.Delete(p.pages, at, at+1)
	}
	return e
}

func (p *plain) Read(name string) (string, api.Errno) {
	if wrongName(name) {
		return "", api.ErrName
	}
	if at := p.at(name); at >= 0 {
		return p.pages[at].has, api.OK
	}
	return "", api.ErrNone
}

func (p *plain) Names() []string {
	var l []string
	for _, x := range p.pages {
		l = append(l, x.name)
	}
	return l
}

func (p *plain) Fuse(n int) api.Errno {
	if n < 0 {
		return api.ErrRange
	}
	p.fuse = &n
	return api.OK
}

func (p *plain) Crash(draws []int) api.Errno {
	if len(draws) > 16384 {
		return api.ErrLong
	}
	p.down, p.fuse = false, nil
	var left []page
	taken := 0
	for _, x := range p.pages {
		if x.safe != nil && *x.safe == x.has {
			left = append(left, x)
			continue
		}
		draw := 0
		if taken < len(draws) {
			draw = draws[taken]
		}
		taken++
		if has, there := afterCrash(x, draw); there {
			left = append(left, page{x.name, has, &has})
		}
	}
	p.pages = left
	return api.OK
}

func afterCrash(x page, draw int) (has string, there bool) {
	switch {
	case draw < 0 && x.safe == nil:
		return "", false
	case draw < 0:
		return *x.safe, true
	case x.safe != nil && strings.HasPrefix(x.has, *x.safe):
		behind := x.has[len(*x.safe):]
		return *x.safe + behind[:draw%(len(behind)+1)], true
	}
	return x.has[:draw%(len(x.has)+1)], true
}

// The kinds of calls that change a disk.
const (
	writes = iota
	appends
	syncs
	renames
	removes
	fuses
	crashes
	kinds
)

// call is one of these: text is what is written, or the second name.
type call struct {
	kind       int
	name, text string
	n          int
	draws      []int
}

// both is a disk and what the chapter says of it, called side by side.
type both struct {
	t     *testing.T
	d     *Disk
	p     *plain
	calls []call
}

func newBoth(t *testing.T) *both {
	t.Helper()
	return &both{t: t, d: New(), p: &plain{}}
}

// disk is what a disk and its second reading are both called by.
type disk interface {
	Write(name, data string) api.Errno
	Append(name, data string) api.Errno
	Sync(name string) api.Errno
	Rename(from, to string) api.Errno
	Remove(name string) api.Errno
	Read(name string) (string, api.Errno)
	Names() []string
	Fuse(n int) api.Errno
	Crash(draws []int) api.Errno
}

func made(d disk, c call) api.Errno {
	switch c.kind {
	case writes:
		return d.Write(c.name, c.text)
	case appends:
		return d.Append(c.name, c.text)
	case syncs:
		return d.Sync(c.name)
	case renames:
		return d.Rename(c.name, c.text)
	case removes:
		return d.Remove(c.name)
	case fuses:
		return d.Fuse(c.n)
	}
	return d.Crash(c.draws)
}

func (b *both) do(c call) api.Errno {
	b.t.Helper()
	b.calls = append(b.calls, c)
	e := made(b.d, c)
	if want := made(b.p, c); e != want {
		b.t.Fatalf("%v: %v, want %v", b.told(), e, want)
	}
	return e
}

// told is the last of the calls, with little of long texts, since all of them may be too many to read.
func (b *both) told() []call {
	l := slices.Clone(b.calls[max(0, len(b.calls)-20):])
	for i := range l {
		l[i].name, l[i].text = l[i].name[:min(70, len(l[i].name))], l[i].text[:min(70, len(l[i].text))]
		l[i].draws = l[i].draws[:min(70, len(l[i].draws))]
	}
	return l
}

// look holds all that can be told of the disk, without changing it, against what should be.
func (b *both) look() {
	b.t.Helper()
	names := b.d.Names()
	if want := b.p.Names(); !slices.Equal(names, want) {
		b.t.Fatalf("%v: Names: %q, want %q", b.told(), names, want)
	}
	for _, name := range append(names, "", "a", "b", "nofile", "A") {
		has, e := b.d.Read(name)
		if want, e2 := b.p.Read(name); has != want || e != e2 {
			b.t.Fatalf("%v: Read(%q): %d bytes, %v, want %d, %v", b.told(), name, len(has), e, len(want), e2)
		}
	}
}

// end crashes, looks at what is left, and asks that another crash changes nothing of that (17.5).
func (b *both) end(draws []int) {
	b.t.Helper()
	b.do(call{kind: crashes, draws: draws})
	b.look()
	b.do(call{kind: crashes, draws: slices.Repeat([]int{-1}, api.MaxFiles)})
	b.look()
}
