package files

import (
	"math"
	"slices"
	"strconv"
	"strings"
	"testing"
	"unsafe"

	"flyover/api"
	tools "flyover/plain"
)

func want(t *testing.T, what string, e, want api.Errno) {
	t.Helper()
	if e != want {
		t.Errorf("%s: %v, want %v", what, e, want)
	}
}

func wantHas(t *testing.T, d *Disk, name, has string) {
	t.Helper()
	if got, e := d.Read(name); got != has || e != api.OK {
		t.Errorf("%s has %d bytes (%.20q), %v, want %d (%.20q)", name, len(got), got, e, len(has), has)
	}
}

func wantNone(t *testing.T, d *Disk, name string) {
	t.Helper()
	if got, e := d.Read(name); got != "" || e != api.ErrNone {
		t.Errorf("Read(%q): %d bytes, %v, want none", name, len(got), e)
	}
	if slices.Contains(d.Names(), name) {
		t.Errorf("%q is among the names", name)
	}
}

func wantNames(t *testing.T, d *Disk, names ...string) {
	t.Helper()
	if got := d.Names(); !slices.Equal(got, names) {
		t.Errorf("Names: %q, want %q", got, names)
	}
}

// synced is a disk with a file a that was synced with each of safe, one behind the other, and then has what is given.
func synced(t *testing.T, safe []string, has string) *Disk {
	t.Helper()
	d := New()
	for _, s := range safe {
		want(t, "Write", d.Write("a", s), api.OK)
		want(t, "Sync", d.Sync("a"), api.OK)
	}
	want(t, "Write", d.Write("a", has), api.OK)
	return d
}

// downed is a disk with the files a, b, each with x, that is down.
func downed(t *testing.T) *Disk {
	t.Helper()
	d := New()
	for _, name := range []string{"a", "b"} {
		want(t, "Write", d.Write(name, "x"), api.OK)
	}
	want(t, "Fuse", d.Fuse(0), api.OK)
	want(t, "Sync without a fuse left", d.Sync("a"), api.ErrDown)
	return d
}

// numbered is a disk with many files without bytes; the names are those that nth tells.
func numbered(t *testing.T, many int) *Disk {
	t.Helper()
	d := New()
	for i := range many {
		want(t, "Write", d.Write(nth(i), ""), api.OK)
	}
	return d
}

func nth(i int) string { return "f" + strconv.Itoa(100+i) }

func letters(many int) string { return strings.Repeat("y", many) }

// Promises 17.1 to 17.4: the chapter's examples.
func TestExamples(t *testing.T) {
	for draw, has := range map[int]string{-1: "x", 1: "xy", 2: "xyz", 3: "x"} {
		d := New()
		want(t, "Write", d.Write("a", "x"), api.OK)
		want(t, "Sync", d.Sync("a"), api.OK)
		want(t, "Append", d.Append("a", "yz"), api.OK)
		want(t, "Crash", d.Crash([]int{draw}), api.OK)
		wantHas(t, d, "a", has)
	}
	d := synced(t, []string{"x"}, "yz")
	want(t, "Crash", d.Crash([]int{1}), api.OK)
	wantHas(t, d, "a", "y")
	d = synced(t, nil, "x")
	want(t, "Crash", d.Crash([]int{-1}), api.OK)
	wantNone(t, d, "a")
	want(t, "Fuse", d.Fuse(1), api.OK)
	want(t, "Write", d.Write("a", "x"), api.OK)
	want(t, "Sync", d.Sync("a"), api.ErrDown)
	wantHas(t, d, "a", "x")
	want(t, "Crash", d.Crash([]int{0}), api.OK)
	wantHas(t, d, "a", "")
}

// Promise 17.1: New: no files, up, and without a fuse, as is a disk that New did not make; two do not tell of each other (R4).
func TestNew(t *testing.T) {
	other := New()
	for _, d := range []*Disk{New(), {}} {
		wantNames(t, d)
		wantNone(t, d, "a")
		for _, e := range []api.Errno{d.Append("a", ""), d.Sync("a"), d.Rename("a", "b"), d.Remove("a")} {
			want(t, "without files", e, api.ErrNone)
		}
		want(t, "Crash", d.Crash(nil), api.OK)
		wantNames(t, d)
		for range 1000 {
			want(t, "Write", d.Write("a", "x"), api.OK)
			want(t, "Sync", d.Sync("a"), api.OK)
			want(t, "Remove", d.Remove("a"), api.OK)
		}
		want(t, "Write", d.Write("b", "x"), api.OK)
		wantNames(t, d, "b")
	}
	wantNames(t, other)
}

// calls are all that take names, each of a name and of one that may be besides.
func calls() map[string]func(d *Disk, name string) api.Errno {
	return map[string]func(d *Disk, name string) api.Errno{
		"Write":       func(d *Disk, name string) api.Errno { return d.Write(name, "x") },
		"Append":      func(d *Disk, name string) api.Errno { return d.Append(name, "x") },
		"Sync":        (*Disk).Sync,
		"Rename":      func(d *Disk, name string) api.Errno { return d.Rename(name, "q") },
		"Rename none": func(d *Disk, name string) api.Errno { return d.Rename("nofile", name) },
		"Rename to":   func(d *Disk, name string) api.Errno { return d.Rename("a", name) },
		"Remove":      (*Disk).Remove,
		"Read": func(d *Disk, name string) api.Errno {
			s, e := d.Read(name)
			if e != api.OK && s != "" {
				return -1
			}
			return e
		},
	}
}

// names are each byte alone, first, last and within, and texts of several lengths.
func names() (l []string) {
	for b := range 256 {
		c := string([]byte{byte(b)})
		l = append(l, c, c+"a", "a"+c, "a"+c+"9", strings.Repeat("b", api.MaxName-1)+c)
	}
	for _, many := range []int{0, 1, 2, 63, 64, 65, 66, 128, api.MaxBytes, api.MaxBytes + 1} {
		l = append(l, letters(many))
	}
	return append(l, "a b", "a.b", "a/b", "ä", "٣", "snap", "log", "temp", "0", "9z", "a\x00", "ａ")
}

func may(name string) bool {
	for _, b := range []byte(name) {
		if !(b >= 97 && b <= 122 || b >= 48 && b <= 57) {
			return false
		}
	}
	return len(name) >= 1 && len(name) <= 64
}

// Promise 17.1: of all calls that take names: names that may be, and those that may not; those change nothing (R5), also on a disk that is down.
func TestNames(t *testing.T) {
	for what, do := range calls() {
		for _, name := range names() {
			d := synced(t, []string{"s"}, "st")
			if !may(name) {
				want(t, what, do(d, name), api.ErrName)
				want(t, what+", down", do(downed(t), name), api.ErrName)
				wantNames(t, d, "a")
				wantHas(t, d, "a", "st")
				continue
			}
			e := do(d, name)
			if fine := what == "Write" || what == "Rename to" || what != "Rename none" && name == "a"; fine != (e == api.OK) || !fine && e != api.ErrNone {
				t.Errorf("%s of %q: %v", what, name, e)
			}
		}
	}
}

// Promises 17.1, 17.2, R1: names that may not be are told ahead of all else.
func TestNamesFirst(t *testing.T) {
	long := letters(api.MaxBytes + 1)
	d := numbered(t, api.MaxFiles)
	for _, e := range []api.Errno{
		d.Write("", long), d.Write("A", "x"), d.Append("A", long), d.Append(long, long),
		d.Rename("nofile", ""), d.Rename("", "nofile"), d.Rename("", ""), d.Rename(nth(0), "A"), d.Rename(long, nth(0)), d.Rename(nth(0), long),
	} {
		want(t, "with a wrong name", e, api.ErrName)
	}
	if len(d.Names()) != api.MaxFiles {
		t.Error(d.Names())
	}
}

// Promise 17.1: Write: what the file has is just data, whatever it had; the bytes are any.
func TestWrite(t *testing.T) {
	d := New()
	every := make([]byte, 256)
	for b := range every {
		every[b] = byte(b)
	}
	for _, data := range []string{"", "x", "", "xyz", "x", string(every), "\xff\xfe", "ä", letters(70000), ""} {
		want(t, "Write", d.Write("a", data), api.OK)
		wantHas(t, d, "a", data)
		wantNames(t, d, "a")
	}
}

// Promise 17.1: Write of as many bytes as may be, and one more: onto a file, and onto none.
func TestWriteLong(t *testing.T) {
	for _, many := range []int{api.MaxBytes - 1, api.MaxBytes} {
		d := New()
		want(t, "Write", d.Write("a", letters(many)), api.OK)
		want(t, "Write again", d.Write("a", letters(many-1)), api.OK)
		wantHas(t, d, "a", letters(many-1))
	}
	for _, many := range []int{api.MaxBytes + 1, api.MaxBytes + 2, 5 * api.MaxBytes} {
		d := New()
		want(t, "Write", d.Write("a", letters(many)), api.ErrLong)
		wantNone(t, d, "a")
		want(t, "Write", d.Write("a", "x"), api.OK)
		want(t, "Write again", d.Write("a", letters(many)), api.ErrLong)
		wantHas(t, d, "a", "x")
		want(t, "Write, down", downed(t).Write("a", letters(many)), api.ErrLong)
	}
}

// Promise 17.1: as many files as may be, and one more; the ones that are there are still written, and there is room again where one is gone.
func TestManyFiles(t *testing.T) {
	d := numbered(t, api.MaxFiles-1)
	want(t, "the last one", d.Write("last", "x"), api.OK)
	full := d.Names()
	want(t, "one more", d.Write("more", "x"), api.ErrLong)
	want(t, "one more, long", d.Write("more", letters(api.MaxBytes+1)), api.ErrLong)
	want(t, "one that is there", d.Write("last", "xyz"), api.OK)
	want(t, "one that is there, long", d.Write("last", letters(api.MaxBytes+1)), api.ErrLong)
	want(t, "Rename onto a new name", d.Rename("last", "end"), api.OK)
	want(t, "one more behind that", d.Write("last", "x"), api.ErrLong)
	want(t, "Rename back", d.Rename("end", "last"), api.OK)
	wantNames(t, d, full...)
	want(t, "Rename onto one that is there", d.Rename(nth(0), nth(1)), api.OK)
	want(t, "one more, where there is room", d.Write("more", "x"), api.OK)
	want(t, "another one more", d.Write("evenmore", "x"), api.ErrLong)
	want(t, "Remove", d.Remove("more"), api.OK)
	want(t, "one more, where there is room again", d.Write("evenmore", "x"), api.OK)
	want(t, "Sync", d.Sync("last"), api.OK)
	want(t, "Fuse", d.Fuse(0), api.OK)
	want(t, "one more, without a fuse left", d.Write("more", "x"), api.ErrLong)
	want(t, "Sync, without a fuse left", d.Sync("last"), api.ErrDown)
	want(t, "one more, down", d.Write("more", "x"), api.ErrLong)
	want(t, "Crash", d.Crash(slices.Repeat([]int{-1}, api.MaxFiles)), api.OK)
	wantNames(t, d, "last")
	want(t, "one more, behind a crash", d.Write("more", "x"), api.OK)
}

// Promise 17.1: Write leaves what is safe as it was; of a file that was not there nothing is, also where one of that name was safe ahead.
func TestWriteKeepsSafe(t *testing.T) {
	d := synced(t, []string{"safe"}, "")
	want(t, "Write", d.Write("a", "other"), api.OK)
	want(t, "Crash", d.Crash([]int{-1}), api.OK)
	wantHas(t, d, "a", "safe")
	want(t, "Remove", d.Remove("a"), api.OK)
	want(t, "Write", d.Write("a", "safe"), api.OK)
	want(t, "Crash", d.Crash([]int{-1}), api.OK)
	wantNone(t, d, "a")
	d = synced(t, []string{"safe"}, "")
	want(t, "Rename", d.Rename("a", "b"), api.OK)
	want(t, "Write", d.Write("a", "new"), api.OK)
	want(t, "Crash", d.Crash([]int{-1, -1}), api.OK)
	wantNone(t, d, "a")
	wantHas(t, d, "b", "safe")
}

// Promise 17.1: Append: behind what there was, ErrNone of a file that is not there, ErrLong of one that would be too long.
func TestAppend(t *testing.T) {
	d := New()
	for _, data := range []string{"", "x", letters(api.MaxBytes), letters(api.MaxBytes + 1)} {
		want(t, "Append to none", d.Append("a", data), api.ErrNone)
		want(t, "Append to none, down", downed(t).Append("c", data), api.ErrNone)
		wantNone(t, d, "a")
	}
	want(t, "Write", d.Write("a", ""), api.OK)
	has := ""
	for _, data := range []string{"", "x", "yz", "\x00\xff", "", letters(1000)} {
		want(t, "Append", d.Append("a", data), api.OK)
		has += data
		wantHas(t, d, "a", has)
	}
	wantNames(t, d, "a")
}

// Promise 17.1: Append up to as many bytes as may be, and one more.
func TestAppendLong(t *testing.T) {
	for _, first := range []int{0, 1, 100, api.MaxBytes - 1, api.MaxBytes} {
		room := api.MaxBytes - first
		d := synced(t, nil, letters(first))
		for _, many := range []int{room + 1, room + 2, api.MaxBytes + 1} {
			want(t, "Append of too many", d.Append("a", strings.Repeat("x", many)), api.ErrLong)
			wantHas(t, d, "a", letters(first))
		}
		want(t, "Append", d.Append("a", strings.Repeat("x", room)), api.OK)
		want(t, "Append of none", d.Append("a", ""), api.OK)
		want(t, "Append of one more", d.Append("a", "x"), api.ErrLong)
		wantHas(t, d, "a", letters(first)+strings.Repeat("x", room))
		want(t, "Fuse", d.Fuse(0), api.OK)
		want(t, "Append, without a fuse left", d.Append("a", "x"), api.ErrLong)
		want(t, "Sync, without a fuse left", d.Sync("a"), api.ErrDown)
		want(t, "Append of too many, down", d.Append("a", "x"), api.ErrLong)
		want(t, "Append, down", d.Append("a", ""), api.ErrDown)
	}
}

// Promises 17.1, 17.2, P1: a file that is put together byte by byte and synced at each one: neither takes longer since the file is long.
func TestByteByByte(t *testing.T) {
	d := synced(t, nil, "")
	for range api.MaxBytes {
		if e := d.Append("a", "y"); e != api.OK {
			t.Fatal(e)
		}
		if e := d.Sync("a"); e != api.OK {
			t.Fatal(e)
		}
	}
	want(t, "Crash", d.Crash([]int{-1}), api.OK)
	wantHas(t, d, "a", letters(api.MaxBytes))
}

// Promise 17.2: Sync: what the file has is safe, also without bytes, and again where there are fewer.
func TestSync(t *testing.T) {
	d := New()
	for _, has := range []string{"", "x", "xyz", "x", "", letters(api.MaxBytes)} {
		want(t, "Write", d.Write("a", has), api.OK)
		want(t, "Sync", d.Sync("a"), api.OK)
		wantHas(t, d, "a", has)
		want(t, "Write", d.Write("a", "?"+has[:len(has)/2]), api.OK)
		want(t, "Crash", d.Crash([]int{-1}), api.OK)
		wantHas(t, d, "a", has)
	}
	want(t, "Sync of none", d.Sync("b"), api.ErrNone)
	want(t, "Sync of none, down", downed(t).Sync("c"), api.ErrNone)
	wantNames(t, d, "a")
}

// Promise 17.2: Sync is of one file alone; what comes behind it is not safe.
func TestSyncOfOne(t *testing.T) {
	d := New()
	for _, name := range []string{"a", "b"} {
		want(t, "Write", d.Write(name, "x"), api.OK)
	}
	want(t, "Sync", d.Sync("a"), api.OK)
	want(t, "Append", d.Append("a", "y"), api.OK)
	want(t, "Crash", d.Crash([]int{-1, -1}), api.OK)
	wantHas(t, d, "a", "x")
	wantNone(t, d, "b")
}

// Promise 17.2: Rename: a file goes over with what it has and what is safe of it, in the place of one that had the name.
func TestRename(t *testing.T) {
	for _, other := range []bool{false, true} {
		for _, safe := range [][]string{nil, {""}, {"s"}} {
			d := synced(t, safe, "has")
			if other {
				want(t, "Write", d.Write("b", "lost"), api.OK)
				want(t, "Sync", d.Sync("b"), api.OK)
			}
			want(t, "Rename", d.Rename("a", "b"), api.OK)
			wantNone(t, d, "a")
			wantHas(t, d, "b", "has")
			wantNames(t, d, "b")
			want(t, "Rename of none", d.Rename("a", "b"), api.ErrNone)
			wantHas(t, d, "b", "has")
			want(t, "Crash", d.Crash([]int{-1}), api.OK)
			if safe == nil {
				wantNames(t, d)
			} else {
				wantHas(t, d, "b", safe[0])
			}
		}
	}
	want(t, "Rename of none, down", downed(t).Rename("c", "a"), api.ErrNone)
	want(t, "Rename of none onto itself", New().Rename("a", "a"), api.ErrNone)
}

// Promise 17.2: Rename onto the same name changes no file, but is a change.
func TestRenameSame(t *testing.T) {
	d := synced(t, []string{"s"}, "st")
	want(t, "Fuse", d.Fuse(2), api.OK)
	for range 2 {
		want(t, "Rename", d.Rename("a", "a"), api.OK)
		wantHas(t, d, "a", "st")
		wantNames(t, d, "a")
	}
	want(t, "Rename without a fuse left", d.Rename("a", "a"), api.ErrDown)
	want(t, "Crash", d.Crash([]int{-1}), api.OK)
	wantHas(t, d, "a", "s")
}

// Promise 17.2: Remove: a file that was safe, too, is gone at once, and stays so behind a crash.
func TestRemove(t *testing.T) {
	for _, safe := range [][]string{nil, {""}, {"s"}} {
		for _, draws := range [][]int{nil, {-1}, {0}, {5}} {
			d := synced(t, safe, "has")
			want(t, "Write", d.Write("b", "x"), api.OK)
			want(t, "Remove", d.Remove("a"), api.OK)
			wantNone(t, d, "a")
			wantNames(t, d, "b")
			want(t, "Remove again", d.Remove("a"), api.ErrNone)
			want(t, "Sync", d.Sync("b"), api.OK)
			want(t, "Crash", d.Crash(draws), api.OK)
			wantNames(t, d, "b")
		}
	}
	want(t, "Remove of none, down", downed(t).Remove("c"), api.ErrNone)
}

// Promise 17.3: Read: what the file has, also when the disk is down.
func TestReadDown(t *testing.T) {
	d := downed(t)
	wantHas(t, d, "a", "x")
	wantHas(t, d, "b", "x")
	wantNone(t, d, "c")
	wantNames(t, d, "a", "b")
}

// Promise 17.3: Names: by bytes, rising, whatever the order in which they came.
func TestNamesRise(t *testing.T) {
	rising := []string{"0", "00", "09", "1", "10", "2", "9", "9z", "a", "a0", "aa", "ab", "b", "z", "z0", "zz", letters(api.MaxName)}
	slices.Sort(rising)
	draw := tools.Noise()
	for range 50 {
		d := New()
		left := slices.Clone(rising)
		for len(left) > 0 {
			at := draw(len(left))
			want(t, "Write", d.Write(left[at], "x"), api.OK)
			left = slices.Delete(left, at, at+1)
		}
		wantNames(t, d, rising...)
	}
}

// changes are the calls that are changes, each of files that a disk of two files, a and b, has.
func changes() []call {
	return []call{
		{kind: writes, name: "a", text: "yz"}, {kind: writes, name: "c", text: "z"}, {kind: appends, name: "a", text: "y"}, {kind: appends, name: "a"},
		{kind: syncs, name: "a"}, {kind: renames, name: "a", text: "b"}, {kind: renames, name: "a", text: "c"}, {kind: renames, name: "b", text: "b"}, {kind: removes, name: "b"},
	}
}

// refused are calls that are refused for another reason than that the disk is down, on the same disk.
func refused() []call {
	long := letters(api.MaxBytes + 1)
	return []call{
		{kind: writes, text: "x"}, {kind: writes, name: "a", text: long}, {kind: writes, name: "c", text: long}, {kind: appends, name: "c"}, {kind: appends, name: "A"}, {kind: appends, name: "a", text: long},
		{kind: syncs, name: "c"}, {kind: syncs}, {kind: renames, name: "c", text: "a"}, {kind: renames, name: "a", text: "B"}, {kind: renames, text: "a"}, {kind: removes, name: "c"}, {kind: removes},
		{kind: fuses, n: -1}, {kind: fuses, n: math.MinInt}, {kind: crashes, draws: make([]int, api.MaxItems+1)},
	}
}

func twoFiles(t *testing.T) *both {
	t.Helper()
	b := newBoth(t)
	for _, c := range []call{{kind: writes, name: "a", text: "x"}, {kind: syncs, name: "a"}, {kind: appends, name: "a", text: "v"}, {kind: writes, name: "b", text: "w"}} {
		want(t, "twoFiles", b.do(c), api.OK)
	}
	return b
}

// Promises 17.1 to 17.3: the fuse: each kind of change takes one of it, and the one behind the last is not made; what is refused otherwise takes none.
func TestFuse(t *testing.T) {
	for _, fuse := range []int{0, 1, 2, 7} {
		for _, c := range changes() {
			for at := range fuse + 1 {
				b := twoFiles(t)
				want(t, "Fuse", b.do(call{kind: fuses, n: fuse}), api.OK)
				for range at {
					want(t, "Sync", b.do(call{kind: syncs, name: "b"}), api.OK)
				}
				for _, r := range refused() {
					if b.do(r) == api.OK {
						t.Errorf("%v is not refused", r.kind)
					}
				}
				b.look()
				e := b.do(c)
				b.look()
				if at == fuse {
					want(t, "the change", e, api.ErrDown)
				} else {
					want(t, "the change", e, api.OK)
				}
				left := fuse - at - 1
				for range left {
					want(t, "Write, while there is a fuse", b.do(call{kind: writes, name: "z", text: "z"}), api.OK)
				}
				want(t, "one more", b.do(call{kind: writes, name: "z", text: "?"}), api.ErrDown)
				b.end([]int{-1, 1, 1, -1})
			}
		}
	}
}

// Promise 17.3: a disk goes down at the change that is not made, not ahead of it: up to then a new fuse counts, from then on none does.
func TestFuseAgain(t *testing.T) {
	d := synced(t, nil, "x")
	want(t, "Fuse", d.Fuse(1), api.OK)
	want(t, "Sync", d.Sync("a"), api.OK)
	want(t, "Fuse", d.Fuse(2), api.OK)
	want(t, "Sync", d.Sync("a"), api.OK)
	want(t, "Fuse", d.Fuse(0), api.OK)
	want(t, "Fuse", d.Fuse(1), api.OK)
	want(t, "Append", d.Append("a", "y"), api.OK)
	want(t, "Append", d.Append("a", "z"), api.ErrDown)
	for _, n := range []int{5, 0, 1, math.MaxInt} {
		want(t, "Fuse, down", d.Fuse(n), api.OK)
		want(t, "Fuse, down", d.Fuse(-1), api.ErrRange)
		want(t, "Append, down", d.Append("a", "z"), api.ErrDown)
	}
	wantHas(t, d, "a", "xy")
}

// Promise 17.3: numbers that are no fuse; the one that there was counts on. The greatest one is never used up.
func TestFuseRange(t *testing.T) {
	for _, n := range []int{-1, -2, math.MinInt32, math.MinInt} {
		d := New()
		want(t, "Fuse", d.Fuse(n), api.ErrRange)
		for range 5 {
			want(t, "Write", d.Write("a", ""), api.OK)
		}
		want(t, "Fuse", d.Fuse(1), api.OK)
		want(t, "Fuse", d.Fuse(n), api.ErrRange)
		want(t, "Write", d.Write("a", ""), api.OK)
		want(t, "Write", d.Write("a", ""), api.ErrDown)
	}
	for _, n := range []int{1 << 32, math.MaxInt} {
		d := New()
		want(t, "Fuse", d.Fuse(n), api.OK)
		for range 1000 {
			want(t, "Write", d.Write("a", ""), api.OK)
		}
	}
}

// Promises 17.1 to 17.3: each change of a disk that is down is refused, and nothing changes.
func TestDown(t *testing.T) {
	for _, c := range changes() {
		b := twoFiles(t)
		b.do(call{kind: fuses, n: 0})
		want(t, "the first one", b.do(c), api.ErrDown)
		for _, again := range changes() {
			want(t, "behind it", b.do(again), api.ErrDown)
		}
		for _, r := range refused() {
			if e := b.do(r); e == api.OK || e == api.ErrDown {
				t.Errorf("refused otherwise: %v", e)
			}
		}
		b.look()
		b.end([]int{-1, 1})
	}
}

// Promise 17.4: behind a crash a disk is up, and without a fuse, whether it was down or had one left.
func TestUpAgain(t *testing.T) {
	for _, fuse := range []int{0, 1, 3, 100} {
		d := New()
		want(t, "Fuse", d.Fuse(fuse), api.OK)
		for range 3 {
			d.Write("a", "x")
		}
		want(t, "Crash", d.Crash(nil), api.OK)
		for range 200 {
			want(t, "Write", d.Write("a", "y"), api.OK)
		}
		wantHas(t, d, "a", "y")
	}
	d := downed(t)
	want(t, "Fuse, down", d.Fuse(2), api.OK)
	want(t, "Crash", d.Crash(nil), api.OK)
	for range 10 {
		want(t, "Write", d.Write("a", "y"), api.OK)
	}
}

// Promise 17.4: one file, all draws of small sizes and great ones, whatever is safe of it and whatever it has.
func TestTorn(t *testing.T) {
	texts := []string{"", "x", "y", "xy", "yx", "xyz", "xxyz", "xyzx"}
	draws := []int{math.MinInt, -2, -1, math.MaxInt, math.MaxInt - 1, 1 << 32, 1 << 31}
	for draw := range 20 {
		draws = append(draws, draw)
	}
	safes := [][]string{nil}
	for _, text := range texts {
		safes = append(safes, []string{text})
	}
	for _, safe := range safes {
		for _, has := range texts {
			for _, draw := range draws {
				d := synced(t, safe, has)
				x := page{name: "a", has: has}
				if safe != nil {
					x.safe = &safe[0]
				}
				want(t, "Crash", d.Crash([]int{draw}), api.OK)
				left, there := afterCrash(x, draw)
				if x.safe != nil && safe[0] == has {
					left, there = has, true
				}
				if !there {
					wantNone(t, d, "a")
					continue
				}
				wantHas(t, d, "a", left)
			}
		}
	}
}

// Promise 17.4: some of these by hand, so that the second reading is held against something.
func TestTornByHand(t *testing.T) {
	for _, x := range []struct {
		safe      []string
		has       string
		draw      int
		left      string
		leftThere bool
	}{
		{nil, "", -1, "", false},
		{nil, "", 0, "", true},
		{nil, "", 7, "", true},
		{nil, "xyz", -5, "", false},
		{nil, "xyz", 0, "", true},
		{nil, "xyz", 2, "xy", true},
		{nil, "xyz", 3, "xyz", true},
		{nil, "xyz", 4, "", true},
		{[]string{""}, "", -1, "", true},
		{[]string{""}, "xyz", -1, "", true},
		{[]string{""}, "xyz", 2, "xy", true},
		{[]string{"xy"}, "xyzab", 0, "xy", true},
		{[]string{"xy"}, "xyzab", 2, "xyza", true},
		{[]string{"xy"}, "xyzab", 3, "xyzab", true},
		{[]string{"xy"}, "xyzab", 4, "xy", true},
		{[]string{"xy"}, "x", -1, "xy", true},
		{[]string{"xy"}, "x", 0, "", true},
		{[]string{"xy"}, "x", 1, "x", true},
		{[]string{"xy"}, "", 9, "", true},
		{[]string{"xy"}, "ab", 1, "a", true},
		{[]string{"xy"}, "abxy", 3, "abx", true},
		{[]string{"xy"}, "xy", -1, "xy", true},
		{[]string{"xy"}, "xy", 1, "xy", true},
		{[]string{"xy", "v"}, "vw", -1, "v", true},
		{[]string{"v", "xy"}, "vw", -1, "xy", true},
		{nil, "xyz", math.MaxInt, "xyz", true}, // 2^63 - 1 mod 4 is 3
	} {
		d := synced(t, x.safe, x.has)
		want(t, "Crash", d.Crash([]int{x.draw}), api.OK)
		if got, e := d.Read("a"); got != x.left || (e == api.OK) != x.leftThere {
			t.Errorf("safe %q, has %q, draw %d: %q, %v, want %q, %v", x.safe, x.has, x.draw, got, e, x.left, x.leftThere)
		}
	}
}

// Promise 17.4: a file that was appended to and is written over with just that is torn as one that was appended to: only the bytes count.
func TestOnlyBytesCount(t *testing.T) {
	for draw := range 5 {
		a, b := synced(t, []string{"x"}, "xyz"), synced(t, []string{"x"}, "x")
		want(t, "Append", b.Append("a", "y"), api.OK)
		want(t, "Append", b.Append("a", "z"), api.OK)
		want(t, "Crash", a.Crash([]int{draw}), api.OK)
		want(t, "Crash", b.Crash([]int{draw}), api.OK)
		wantHas(t, a, "a", "x"+"yz"[:draw%3])
		wantHas(t, b, "a", "x"+"yz"[:draw%3])
	}
}

// Promise 17.4: the draws are taken by names, not in the order in which the files came; a file that has just what is safe takes none; behind the last draw comes 0.
func TestDrawsByNames(t *testing.T) {
	d := New()
	for _, name := range []string{"d", "b", "e", "a", "c", "10", "9", "zz"} {
		want(t, "Write", d.Write(name, name+"wxyz"), api.OK)
	}
	for _, name := range []string{"b", "10", "e"} {
		want(t, "Sync", d.Sync(name), api.OK)
	}
	want(t, "Append", d.Append("e", "!?"), api.OK)
	want(t, "Write what is safe", d.Write("b", "bwxyz"), api.OK)
	want(t, "Crash", d.Crash([]int{3, -1, 4, 2, 7}), api.OK)
	wantNames(t, d, "10", "9", "b", "c", "d", "e", "zz")
	for name, has := range map[string]string{"10": "10wxyz", "9": "9wx", "b": "bwxyz", "c": "cwxy", "d": "dw", "e": "ewxyz!", "zz": ""} {
		wantHas(t, d, name, has)
	}
}

// Promise 17.4: a file without bytes that was not synced takes a draw, one that was synced takes none.
func TestDrawsOfEmptyFiles(t *testing.T) {
	for _, sync := range []bool{false, true} {
		d := New()
		want(t, "Write", d.Write("a", ""), api.OK)
		want(t, "Write", d.Write("b", "xyz"), api.OK)
		if sync {
			want(t, "Sync", d.Sync("a"), api.OK)
		}
		want(t, "Crash", d.Crash([]int{-1, 2}), api.OK)
		if sync {
			wantHas(t, d, "a", "")
			wantNone(t, d, "b")
		} else {
			wantNone(t, d, "a")
			wantHas(t, d, "b", "xy")
		}
	}
}

// Promise 17.4: as many draws as may be, and one more: that changes nothing (R5), neither files nor whether the disk is down, nor its fuse.
func TestManyDraws(t *testing.T) {
	for _, many := range []int{0, 1, 2, 3, api.MaxItems - 1, api.MaxItems} {
		d := downed(t)
		want(t, "Crash", d.Crash(slices.Repeat([]int{1}, many)), api.OK)
		wantHas(t, d, "a", "x"[:min(many, 1)])
		wantHas(t, d, "b", "x"[:min(max(many-1, 0), 1)])
		want(t, "Write", d.Write("a", "y"), api.OK)
	}
	for _, many := range []int{api.MaxItems + 1, api.MaxItems + 2, 3 * api.MaxItems} {
		d := downed(t)
		want(t, "Crash", d.Crash(slices.Repeat([]int{-1}, many)), api.ErrLong)
		want(t, "Write, still down", d.Write("a", "y"), api.ErrDown)
		wantHas(t, d, "a", "x")
		d = synced(t, []string{"x"}, "y")
		want(t, "Fuse", d.Fuse(1), api.OK)
		want(t, "Crash", d.Crash(slices.Repeat([]int{-1}, many)), api.ErrLong)
		wantHas(t, d, "a", "y")
		want(t, "Sync, with the fuse", d.Sync("a"), api.OK)
		want(t, "Sync, without one", d.Sync("a"), api.ErrDown)
	}
}

// Promise 17.4: as many files as may be, all torn, each with a draw of its own.
func TestManyTorn(t *testing.T) {
	d := New()
	var draws []int
	for i := range api.MaxFiles {
		name := nth(i * 37 % api.MaxFiles)
		want(t, "Write", d.Write(name, letters(200)), api.OK)
		draws = append(draws, i*3-1)
	}
	want(t, "Crash", d.Crash(draws), api.OK)
	wantNone(t, d, nth(0))
	for i := 1; i < api.MaxFiles; i++ {
		wantHas(t, d, nth(i), letters(i*3-1))
	}
}

// Promises 17.4, 17.5: what is left of a crash is safe: it goes on as a file that was synced there, and what was cut off never comes again.
func TestBehindACrash(t *testing.T) {
	for _, safe := range [][]string{nil, {""}, {"s"}, {"sa"}} {
		for draw := range 6 {
			d := synced(t, safe, "safe")
			want(t, "Crash", d.Crash([]int{draw}), api.OK)
			left, _ := d.Read("a")
			want(t, "Append", d.Append("a", "XY"), api.OK)
			wantHas(t, d, "a", left+"XY")
			want(t, "Crash", d.Crash([]int{1}), api.OK)
			wantHas(t, d, "a", left+"X")
			want(t, "Append", d.Append("a", "Z"), api.OK)
			want(t, "Crash", d.Crash([]int{-1}), api.OK)
			wantHas(t, d, "a", left+"X")
			want(t, "Write", d.Write("a", "other"), api.OK)
			want(t, "Append", d.Append("a", "one"), api.OK)
			want(t, "Crash", d.Crash([]int{-1}), api.OK)
			wantHas(t, d, "a", left+"X")
		}
	}
}

// Promise 17.5: what is safe stays, whatever is appended and drawn.
func TestSafeStays(t *testing.T) {
	draw := tools.Noise()
	for range 300 {
		d, safe := New(), ""
		want(t, "Write", d.Write("a", ""), api.OK)
		want(t, "Sync", d.Sync("a"), api.OK)
		for range 30 {
			switch draw(4) {
			case 0:
				want(t, "Sync", d.Sync("a"), api.OK)
				safe, _ = d.Read("a")
			case 1:
				want(t, "Crash", d.Crash([]int{draw(30) - 3}), api.OK)
				left, e := d.Read("a")
				if e != api.OK || !strings.HasPrefix(left, safe) {
					t.Fatalf("%q, %v is left of the safe %q", left, e, safe)
				}
				safe = left
			default:
				want(t, "Append", d.Append("a", "0123456789"[draw(10):]), api.OK)
			}
		}
	}
}

// R4: draws are not changed, nor is what lies behind their end, which is not read either.
func TestDrawsAreNotTouched(t *testing.T) {
	room := []int{2, -1, -1, -1}
	d := New()
	for _, name := range []string{"a", "b", "c"} {
		want(t, "Write", d.Write(name, "xyz"), api.OK)
	}
	want(t, "Crash", d.Crash(room[:1]), api.OK)
	wantHas(t, d, "a", "xy")
	wantHas(t, d, "b", "")
	wantHas(t, d, "c", "")
	if !slices.Equal(room, []int{2, -1, -1, -1}) {
		t.Error("draws:", room)
	}
	room[0] = -1
	wantHas(t, d, "a", "xy")
}

// R4: texts that are handed in are not kept: their memory may become something else.
func TestTextsAreNotKept(t *testing.T) {
	name, data, more, to := []byte("name"), []byte("data"), []byte("more"), []byte("to")
	text := func(b []byte) string { return unsafe.String(unsafe.SliceData(b), len(b)) }
	d := New()
	want(t, "Write", d.Write(text(name), text(data)), api.OK)
	want(t, "Sync", d.Sync(text(name)), api.OK)
	want(t, "Append", d.Append(text(name), text(more)), api.OK)
	copy(name, "othr")
	copy(data, "----")
	copy(more, "----")
	wantNames(t, d, "name")
	wantHas(t, d, "name", "datamore")
	want(t, "Rename", d.Rename("name", text(to)), api.OK)
	copy(to, "ot")
	wantNames(t, d, "to")
	wantHas(t, d, "to", "datamore")
	want(t, "Crash", d.Crash([]int{-1}), api.OK)
	wantHas(t, d, "to", "data")
}

// R4: an answer is new memory: what is done to one is not seen in another one, nor on the disk.
func TestAnswersAreNew(t *testing.T) {
	d := New()
	for _, name := range []string{"aa", "bb", "cc"} {
		want(t, "Write", d.Write(name, "xyz"), api.OK)
	}
	first := d.Names()
	second := d.Names()
	for i := range first {
		if unsafe.StringData(first[i]) == unsafe.StringData(second[i]) {
			t.Error("two answers share", first[i])
		}
	}
	for i, room := 0, first[:cap(first)]; i < len(room); i++ {
		room[i] = "?"
	}
	wantNames(t, d, second...)
	if !slices.Equal(second, []string{"aa", "bb", "cc"}) {
		t.Error("the other answer:", second)
	}
	x, _ := d.Read("aa")
	y, _ := d.Read("aa")
	if unsafe.StringData(x) == unsafe.StringData(y) {
		t.Error("two answers share", x)
	}
	want(t, "Append", d.Append("aa", "more"), api.OK)
	want(t, "Write", d.Write("aa", "other"), api.OK)
	want(t, "Crash", d.Crash([]int{2}), api.OK)
	if x != "xyz" || y != "xyz" {
		t.Errorf("the answers became %q, %q", x, y)
	}
}

// R5: calls that are refused change nothing that a later call could tell, whatever is done ahead of them and behind.
func TestRefusedChangesNothing(t *testing.T) {
	for _, fuse := range []int{-1, 0, 1, 2} {
		for _, c := range changes() {
			for _, r := range refused() {
				b, other := twoFiles(t), twoFiles(t)
				if fuse >= 0 {
					b.do(call{kind: fuses, n: fuse})
					other.do(call{kind: fuses, n: fuse})
				}
				if b.do(r) == api.OK {
					t.Error("not refused:", b.told())
				}
				b.look()
				want(t, "the change behind it", b.do(c), other.do(c))
				b.look()
				b.end([]int{1, -1})
				other.end([]int{1, -1})
				wantNames(t, b.d, other.d.Names()...)
			}
		}
	}
}

// choices are calls of two names with short texts.
func choices() []call {
	return []call{
		{kind: writes, name: "a"}, {kind: writes, name: "a", text: "x"}, {kind: writes, name: "a", text: "xyz"}, {kind: writes, name: "b", text: "uv"},
		{kind: appends, name: "a", text: "yz"}, {kind: syncs, name: "a"}, {kind: syncs, name: "b"},
		{kind: renames, name: "a", text: "b"}, {kind: renames, name: "b", text: "a"}, {kind: renames, name: "a", text: "a"}, {kind: removes, name: "a"},
		{kind: fuses, n: 0}, {kind: fuses, n: 1}, {kind: fuses, n: 2},
		{kind: crashes}, {kind: crashes, draws: []int{-1}}, {kind: crashes, draws: []int{1, -1}}, {kind: crashes, draws: []int{2, 1}},
	}
}

// Promises 17.1 to 17.5: all rows of a few calls, each ended by several crashes.
func TestAllRows(t *testing.T) {
	const most = 4
	ends := [][]int{nil, {-1, -1}, {1, -1}, {-1, 1}, {2, 2}, {5, 4}}
	var grow func(row []call)
	grow = func(row []call) {
		for _, draws := range ends {
			b := newBoth(t)
			for _, c := range row {
				b.do(c)
			}
			b.look()
			b.end(draws)
		}
		if len(row) < most {
			for _, c := range choices() {
				grow(append(row[:len(row):len(row)], c))
			}
		}
	}
	grow(nil)
}

// drawn is a call of few names or of more than there may be files, with short texts, now and then a long one.
func drawn(draw func(int) int, names int) call {
	c := call{kind: draw(fuses), name: nth(draw(names)), text: "abcdefgh"[draw(9):]}
	switch {
	case c.kind == renames:
		c.text = nth(draw(names))
	case draw(40) == 0:
		c.text = strings.Repeat(c.text+"z", api.MaxBytes/(1+draw(9)))
	}
	switch draw(30) {
	case 0:
		c = call{kind: fuses, n: draw(12) - 1}
	case 1:
		c = call{kind: crashes}
		for range draw(names + 2) {
			c.draws = append(c.draws, []int{-1, draw(9), draw(1 << 20), math.MaxInt - draw(9)}[draw(4)])
		}
	case 2:
		c.name = []string{"", "A", letters(65), "a\n"}[draw(4)]
	}
	return c
}

// Promises 17.1 to 17.5: drawn calls in long rows, of few files and of as many as may be.
func TestDrawn(t *testing.T) {
	draw := tools.Noise()
	for _, names := range []int{1, 2, 3, 10, api.MaxFiles, api.MaxFiles + 6} {
		for range 40 {
			b := newBoth(t)
			if draw(2) == 0 {
				for i := range names {
					b.do(call{kind: writes, name: nth(i), text: "begin"})
				}
			}
			for step := range 300 {
				b.do(drawn(draw, names))
				if step%16 == 0 {
					b.look()
				}
			}
			b.look()
			b.end([]int{1, -1, 5, 2, -1, 900, 0, 3})
		}
	}
}

// R7: the same calls tell the same.
func TestSameCalls(t *testing.T) {
	draw := tools.Noise()
	for range 30 {
		a, b := New(), New()
		for range 300 {
			c := drawn(draw, 12)
			if e, again := made(a, c), made(b, c); e != again {
				t.Fatalf("%v, then %v", e, again)
			}
			wantNames(t, a, b.Names()...)
			has, e := a.Read(nth(3))
			if again, e2 := b.Read(nth(3)); has != again || e != e2 {
				t.Fatalf("%d bytes, %v, then %d, %v", len(has), e, len(again), e2)
			}
		}
	}
}

// Promises 17.1 to 17.5, P1: rows of calls that are made up: of each its kind, its name, its text, and a number.
func FuzzFiles(f *testing.F) {
	f.Add([]byte{0, 0, 1, 0, 2, 0, 0, 0, 1, 0, 2, 0, 6, 0, 0, 1}, "xyz")
	f.Add([]byte{5, 0, 0, 1, 0, 0, 1, 0, 2, 0, 0, 0, 6, 0, 0, 255}, "x")
	f.Add([]byte{0, 1, 200, 0, 3, 1, 2, 0, 4, 2, 0, 0, 0, 9, 9, 9}, "A")
	f.Add([]byte{}, "")
	f.Fuzz(func(t *testing.T, rows []byte, text string) {
		names := []string{"a", "b", "c", text}
		b := newBoth(t)
		for ; len(rows) >= 4; rows = rows[4:] {
			n := int(int8(rows[3]))
			c := call{kind: int(rows[0]) % kinds, name: names[rows[1]%4], text: text[:min(len(text), int(rows[2]))], n: n, draws: []int{n, int(rows[1]), int(int8(rows[2]))}}
			if c.kind == renames {
				c.text = names[rows[2]%4]
			}
			b.do(c)
		}
		b.look()
		b.end([]int{1, -1, 2})
	})
}
