package store

import (
	"math"
	"slices"
	"strconv"
	"strings"
	"testing"
	"unsafe"

	"flyover/api"
	"flyover/files"
	tools "flyover/plain"
)

func want(t *testing.T, what string, e, want api.Errno) {
	t.Helper()
	if e != want {
		t.Errorf("%s: %v, want %v", what, e, want)
	}
}

func put(key, value string) call { return call{kind: puts, key: key, text: value} }

func write(name, data string) call { return call{kind: writes, key: name, text: data} }

func fuse(n int) call { return call{kind: fuses, n: n} }

func crash(draws ...int) call { return call{kind: crashes, draws: draws} }

func open(t *testing.T, d *files.Disk) *Store {
	t.Helper()
	s, e := Open(d)
	if s == nil || e != api.OK {
		t.Fatalf("Open: %v", e)
	}
	return s
}

func wantHas(t *testing.T, s *Store, pairs ...pair) {
	t.Helper()
	if got := told(t, s); !slices.Equal(got, pairs) {
		t.Errorf("it has %.300q, want %.300q", got, pairs)
	}
}

func wantFile(t *testing.T, d *files.Disk, name, has string) {
	t.Helper()
	if got, e := d.Read(name); got != has || e != api.OK {
		t.Errorf("%s has %d bytes (%.80q), %v, want %d (%.80q)", name, len(got), got, e, len(has), has)
	}
}

func wantNames(t *testing.T, d *files.Disk, names ...string) {
	t.Helper()
	if got := d.Names(); !slices.Equal(got, names) {
		t.Errorf("files %q, want %q", got, names)
	}
}

// letters are so many bytes, the last of which is another one: none begins with a shorter one, so that it is seen where something is cut off.
func letters(many int) string { return strings.Repeat("x", max(many-1, 0)) + "y"[:min(many, 1)] }

// fits is a value with which the key's record takes so many bytes.
func fits(t *testing.T, key string, many int) string {
	t.Helper()
	for size := max(many-len(key)-20, 0); size <= many; size++ {
		if len(pair{key, letters(size)}.bytes()) == many {
			return letters(size)
		}
	}
	t.Fatalf("no record of %q takes %d bytes", key, many)
	return ""
}

// Promises 18.1 to 18.3: the chapter's examples.
func TestExamples(t *testing.T) {
	d := files.New()
	s := open(t, d)
	wantNames(t, d, "log")
	wantFile(t, d, "log", "")
	for _, p := range []pair{{"a", "1"}, {"b", "2"}, {"a", "3"}} {
		want(t, "Put", s.Put(p.key, p.value), api.OK)
	}
	wantFile(t, d, "log", inRow(pair{"a", "1"}, pair{"b", "2"}, pair{"a", "3"}))
	wantHas(t, s, pair{"a", "3"}, pair{"b", "2"})
	want(t, "Compact", s.Compact(), api.OK)
	wantFile(t, d, "snap", inRow(pair{"a", "3"}, pair{"b", "2"}))
	wantFile(t, d, "log", "")
	wantNames(t, d, "log", "snap")

	d = files.New()
	want(t, "Write", d.Write("log", inRow(pair{"a", "1"})+"xyz"), api.OK)
	wantHas(t, open(t, d), pair{"a", "1"})
	wantFile(t, d, "log", inRow(pair{"a", "1"}))
	d = files.New()
	want(t, "Write", d.Write("snap", "xyz"), api.OK)
	s, e := Open(d)
	if s != nil || e != api.ErrBroken {
		t.Error("a snap of three bytes:", e)
	}
}

// The form: a record byte by byte, so that the second reading is held against something.
func TestRecordByHand(t *testing.T) {
	const sum = "k4A\xc4" // of the eight bytes behind it
	record := "\x08\x00\x00\x00" + sum + "\x03\x02\x02\x01a\x02\x011"
	if got := inRow(pair{"a", "1"}); got != record {
		t.Fatalf("the second reading writes %q, want %q", got, record)
	}
	d := files.New()
	s := open(t, d)
	want(t, "Put", s.Put("a", "1"), api.OK)
	wantFile(t, d, "log", record)
	want(t, "Compact", s.Compact(), api.OK)
	wantFile(t, d, "snap", record)
	wantHas(t, open(t, d), pair{"a", "1"})
}

// Promise 18.1: no disk, and disks on which nothing was ahead, also one that files.New did not make; two stores do not tell of each other (R4).
func TestOpenNothing(t *testing.T) {
	for range 2 {
		if s, e := Open(nil); s != nil || e != api.ErrNone {
			t.Error("no disk:", e)
		}
	}
	other := open(t, files.New())
	for _, d := range []*files.Disk{files.New(), {}} {
		s := open(t, d)
		wantHas(t, s)
		wantNames(t, d, "log")
		wantFile(t, d, "log", "")
		want(t, "Put", s.Put("a", "1"), api.OK)
		wantHas(t, s, pair{"a", "1"})
	}
	wantHas(t, other)
}

// notRecords are bytes that begin with no record of a key that may be; some hold one further on.
func notRecords() map[string]string {
	one := inRow(pair{"k", "v"})
	head := func(size int, body string) string {
		b := []byte(framed(body))
		b[0], b[1], b[2], b[3] = byte(size), byte(size>>8), byte(size>>16), byte(size>>24)
		return string(b)
	}
	turned := func(at int) string {
		b := []byte(one)
		b[at] ^= 1
		return string(b)
	}
	return map[string]string{
		"three bytes":              "xyz",
		"a 0":                      "\x00",
		"half a head":              one[:7],
		"a head alone":             one[:8],
		"a record but a byte":      one[:len(one)-1],
		"a wrong sum":              turned(5),
		"a wrong byte":             turned(len(one) - 1),
		"a wrong kind":             turned(8),
		"a length too short":       head(7, coded("k", "v")),
		"a length too long":        head(9, coded("k", "v")),
		"a length above MaxBytes":  head(api.MaxBytes+1, coded("k", "v")),
		"the greatest length":      "\xff\xff\xff\xff\x00\x00\x00\x00" + one,
		"a frame of nothing":       framed(""),
		"no item":                  framed("\x04"),
		"a number":                 framed("\x01\x05"),
		"a text":                   framed("\x02\x01k"),
		"a text of a record":       framed("\x02" + string(rune(len(coded("k", "v")))) + coded("k", "v")),
		"a list of nothing":        framed(coded()),
		"a list of one text":       framed(coded("k")),
		"a list of three":          framed(coded("k", "v", "w")),
		"a list of four":           framed(coded("k", "v", "k", "v")),
		"a number as a key":        framed("\x03\x02\x01\x05\x02\x01v"),
		"a number as a value":      framed("\x03\x02\x02\x01k\x01\x05"),
		"a list as a key":          framed("\x03\x02\x03\x01\x02\x01k\x02\x01v"),
		"a list as a value":        framed("\x03\x02\x02\x01k\x03\x01\x02\x01v"),
		"an empty list as a value": framed("\x03\x02\x02\x01k\x03\x00"),
		"a record in a list":       framed("\x03\x01" + coded("k", "v")),
		"bytes behind the item":    framed(coded("k", "v") + "\x00"),
		"an item cut off":          framed("\x03\x02\x02\x01k\x02\x02v"),
		"a number not shortest":    framed("\x03\x02\x02\x81\x00k\x02\x01v"),
		"an empty key":             framed(coded("", "v")),
		"an empty key and value":   framed(coded("", "")),
		"a key of 65 bytes":        framed(coded(strings.Repeat("k", 65), "v")),
		"a key of 1000 bytes":      framed(coded(strings.Repeat("k", 1000), "")),
		"a byte ahead of a record": "\x00" + one,
		"a frame in a frame":       framed(one),
		"a record without a frame": coded("k", "v"),
	}
}

// rows are records that may stand in a snap.
func rows() [][]pair {
	all := [][]pair{
		nil,
		{{"a", "1"}},
		{{"a", ""}},
		{{"a", "1"}, {"b", "2"}},
		{{"A", "1"}, {"Z", "2"}, {"a", "3"}, {"aa", "4"}, {"ab", "5"}, {"b", "6"}, {"ä", "7"}, {"\xff", "8"}, {"\xff\x00", "9"}},
		{{"\x00", "\x00"}, {"\x00\x00", "\xff"}, {" ", "\n"}, {"0", "0"}, {"00", "1"}, {"10", "2"}, {"9", "3"}},
		{{strings.Repeat("a", 63), "1"}, {strings.Repeat("a", 64), "2"}, {strings.Repeat("b", 64), "3"}},
		{{"a", letters(1 << 16)}, {"b", letters(127)}, {"c", letters(128)}, {"d", letters(16383)}, {"e", letters(16384)}},
		{{"a", letters(1<<16 + 1)}, {"b", letters(100000)}},
		{{"a", inRow(pair{"b", "2"})}},
	}
	return all
}

// Promise 18.1: a file snap that is not records up to its end is refused ahead of all changes, whatever temp and log are, also by a disk that is down; nothing changes (R5).
func TestOpenBroken(t *testing.T) {
	broken := map[string]string{
		"a key twice":               inRow(pair{"a", "1"}, pair{"a", "1"}),
		"a key twice, between":      inRow(pair{"a", "1"}, pair{"b", "2"}, pair{"b", "3"}, pair{"c", "4"}),
		"falling keys":              inRow(pair{"b", "1"}, pair{"a", "2"}),
		"falling behind rising":     inRow(pair{"a", "1"}, pair{"c", "2"}, pair{"b", "3"}),
		"a longer key ahead":        inRow(pair{"aa", "1"}, pair{"a", "2"}),
		"keys that rise as numbers": inRow(pair{"9", "1"}, pair{"10", "2"}),
		"keys that rise as letters": inRow(pair{"a", "1"}, pair{"B", "2"}),
		"a key again, further on":   inRow(pair{"a", "1"}, pair{"b", "2"}, pair{"a", "1"}),
	}
	for name, b := range notRecords() {
		broken[name] = b
		broken[name+", behind a record"] = inRow(pair{"a", "1"}) + b
		broken[name+", ahead of a record"] = b + inRow(pair{"x", "1"})
	}
	for name, snap := range broken {
		for _, down := range []bool{false, true} {
			for _, log := range []string{"", inRow(pair{"l", "1"}), "torn"} {
				b := newBoth(t, write("snap", snap), write("log", log), write("temp", "t"))
				if down {
					b.do(fuse(0))
					b.do(write("x", ""))
				} else {
					b.do(fuse(1))
				}
				if e := b.do(call{kind: opens}); e != api.ErrBroken {
					t.Fatalf("%s: %v", name, e)
				}
				b.look()
				if !down {
					want(t, "a change of the fuse that nothing was taken of", b.do(write("x", "")), api.OK)
				}
				b.end(1, 2, 3)
			}
		}
	}
}

// Promise 18.1: snaps that are records up to their end.
func TestOpenSnap(t *testing.T) {
	for _, row := range rows() {
		b := newBoth(t, write("snap", inRow(row...)))
		want(t, "Open", b.do(call{kind: opens}), api.OK)
		wantHas(t, b.s, row...)
		b.look()
		wantFile(t, b.d, "snap", inRow(row...))
		b.end(-1, -1)
	}
}

// Promise 18.1: logs of records: each counts more than those ahead of it, and than the snap.
func TestOpenLog(t *testing.T) {
	for _, row := range rows() {
		for _, more := range rows() {
			if len(inRow(more...)+inRow(row...)) > api.MaxBytes {
				continue
			}
			b := newBoth(t, write("snap", inRow(pair{"Z", "old"}, pair{"a", "old"}, pair{"zz", "old"})), write("log", inRow(more...)+inRow(row...)))
			want(t, "Open", b.do(call{kind: opens}), api.OK)
			wantHas(t, b.s, with(with([]pair{{"Z", "old"}, {"a", "old"}, {"zz", "old"}}, more...), row...)...)
			b.look()
		}
	}
	b := newBoth(t, write("log", inRow(pair{"b", "1"}, pair{"a", "2"}, pair{"b", "3"}, pair{"b", "4"}, pair{"a", "5"}, pair{"", "6"})))
	want(t, "Open", b.do(call{kind: opens}), api.OK)
	wantHas(t, b.s, pair{"a", "5"}, pair{"b", "4"})
}

// Promise 18.1: of a log, the bytes are taken away from the first that are no record on, with all that stands behind them; what stands ahead stays.
func TestOpenTornLog(t *testing.T) {
	ahead := [][]pair{nil, {{"b", "1"}}, {{"b", "1"}, {"a", "2"}, {"b", "3"}}}
	for name, torn := range notRecords() {
		for _, good := range ahead {
			for _, behind := range []string{"", inRow(pair{"x", "1"}), "torn"} {
				b := newBoth(t, write("snap", inRow(pair{"a", "s"})), write("log", inRow(good...)+torn+behind))
				want(t, name, b.do(call{kind: opens}), api.OK)
				wantHas(t, b.s, with([]pair{{"a", "s"}}, good...)...)
				wantFile(t, b.d, "log", inRow(good...))
				wantNames(t, b.d, "log", "snap")
				b.look()
				want(t, "Put", b.do(put("x", "y")), api.OK)
				b.look()
				b.end(-1, -1)
			}
		}
	}
}

// Promise 18.1: a log that is cut at each place, and one with each byte turned into another one.
func TestOpenCutAndTurned(t *testing.T) {
	row := []pair{{"a", "1"}, {"bc", ""}, {"a", "23"}}
	log := inRow(row...)
	for at := range len(log) + 1 {
		b := newBoth(t, write("log", log[:at]))
		want(t, "Open of a log that is cut", b.do(call{kind: opens}), api.OK)
		b.look()
		b.end(-1)
		for bit := range 8 {
			if at == len(log) {
				break
			}
			turned := []byte(log)
			turned[at] ^= 1 << bit
			b := newBoth(t, write("log", string(turned)))
			want(t, "Open of a log with another byte", b.do(call{kind: opens}), api.OK)
			b.look()
			whole := 0
			for len(inRow(row[:whole+1]...)) <= at {
				whole++
			}
			wantFile(t, b.d, "log", inRow(row[:whole]...))
		}
	}
}

// Promise 18.1: logs of as many bytes as a file may have, whole and torn.
func TestOpenFullLog(t *testing.T) {
	row := []pair{{"a", letters(100000)}, {"b", letters(100000)}}
	row = append(row, pair{"c", fits(t, "c", api.MaxBytes-len(inRow(row...)))})
	full := inRow(row...)
	for _, log := range []string{full, full[:len(full)-1], full[1:], strings.Repeat("\x00", api.MaxBytes), strings.Repeat(inRow(pair{"a", ""}), api.MaxBytes/15)} {
		b := newBoth(t, write("log", log))
		want(t, "Open", b.do(call{kind: opens}), api.OK)
		b.look()
		b.end(-1)
	}
}

// begins are the ways in which a disk may be found: with a temp or without one; a log, a torn one, or none; a snap, or none; other files; and whether all is safe.
func begins() [][]call {
	good := inRow(pair{"a", "1"}, pair{"b", "2"})
	var all [][]call
	for _, temp := range [][]call{nil, {write("temp", "")}, {write("temp", good)}} {
		for _, log := range [][]call{nil, {write("log", "")}, {write("log", good)}, {write("log", good+"torn")}, {write("log", "torn"+good)}} {
			for _, snap := range [][]call{nil, {write("snap", "")}, {write("snap", inRow(pair{"a", "s"}))}} {
				row := slices.Concat(temp, log, snap, []call{write("other", "o")})
				all = append(all, row, append(slices.Clone(row), crash(100, 100, 100, 100)))
			}
		}
	}
	return all
}

// ends are draws of crashes; one stands for each file that may be torn.
func ends() [][]int {
	return [][]int{nil, {-1, -1, -1, -1}, {1 << 20, 3, 5, 7}, {0, -1, 20, 21}, {-1, 9, -1, 16}, {math.MaxInt, math.MaxInt, math.MaxInt - 1, math.MinInt}, {30, 30, 30, 30}}
}

// Promise 18.1: Open makes its changes in their order and no others, up to the one that is refused; none is synced that should not be.
func TestOpenInOrder(t *testing.T) {
	for _, begin := range begins() {
		for many := range 8 {
			for _, draws := range ends() {
				b := newBoth(t, begin...)
				b.do(fuse(many))
				b.do(call{kind: opens})
				b.look()
				b.do(call{kind: opens}) // of a disk that may be down
				b.look()
				b.end(draws...)
			}
		}
	}
}

// Promise 18.1: where nothing is to be mended, nothing is changed: a disk that is down, or has no fuse left, is opened.
func TestOpenWithoutChanges(t *testing.T) {
	for _, snap := range []string{"", inRow(pair{"a", "s"})} {
		for _, log := range []string{"", inRow(pair{"b", "1"})} {
			b := newBoth(t, write("snap", snap), write("log", log), fuse(0))
			want(t, "Open without a fuse left", b.do(call{kind: opens}), api.OK)
			b.do(fuse(1))
			want(t, "a change that is still made", b.do(write("other", "")), api.OK)
			want(t, "one more", b.do(write("other", "x")), api.ErrDown)
			want(t, "Open of a disk that is down", b.do(call{kind: opens}), api.OK)
			b.look()
			want(t, "Put", b.do(put("c", "2")), api.ErrDown)
			b.look()
			b.end(-1, -1, -1)
		}
	}
	for _, c := range []call{write("temp", ""), {kind: removes, key: "log"}, {kind: appends, key: "log", text: "torn"}} {
		b := opened(t, put("a", "1"), c, fuse(0))
		want(t, "Open without a fuse left", b.do(call{kind: opens}), api.ErrDown)
		b.look()
		b.end(-1, -1)
	}
}

// keys are some that may be, and some that may not.
func keys() (may, mayNot []string) {
	for b := range 256 {
		c := string([]byte{byte(b)})
		may = append(may, c, c+"a", "a"+c, strings.Repeat("b", api.MaxName-1)+c)
		mayNot = append(mayNot, strings.Repeat("b", api.MaxName)+c)
	}
	may = append(may, "snap", "log", "temp", "m1.0", "a b", "a/b", "ä", strings.Repeat("ä", 32), strings.Repeat("k", 62))
	mayNot = append(mayNot, "", strings.Repeat("ä", 33), strings.Repeat("k", 66), strings.Repeat("k", 128), strings.Repeat("k", 256), strings.Repeat("k", 256+64), letters(api.MaxBytes), letters(api.MaxBytes+1))
	return may, mayNot
}

// Promises 18.2, 18.3: keys that may be, and those that may not; these change nothing (R5).
func TestKeys(t *testing.T) {
	may, mayNot := keys()
	b := opened(t)
	for _, key := range may {
		if _, e := b.s.Get(key); e != api.ErrNone && e != api.OK {
			t.Errorf("Get(%q): %v", key, e)
		}
		want(t, "Put", b.do(put(key, "v"+key)), api.OK)
		if value, e := b.s.Get(key); value != "v"+key || e != api.OK {
			t.Errorf("Get(%q): %q, %v", key, value, e)
		}
	}
	b.look()
	for _, key := range mayNot {
		for _, value := range []string{"", "v", letters(1<<16 + 1), letters(api.MaxBytes + 1)} {
			want(t, "Put", b.do(put(key, value)), api.ErrName)
		}
		if value, e := b.s.Get(key); value != "" || e != api.ErrName {
			t.Errorf("Get(%.70q): %.70q, %v", key, value, e)
		}
	}
	b.look()
	b.do(fuse(0))
	want(t, "Put, without a fuse left", b.do(put("", "v")), api.ErrName)
	b.end(-1)
	sorted := slices.Sorted(slices.Values(may))
	if got := b.s.Keys(); !slices.Equal(got, slices.Compact(sorted)) {
		t.Errorf("Keys: %q", got)
	}
}

// Promise 18.3: Get and Keys: what was put last, of each key alone, and the keys by bytes.
func TestGetAndKeys(t *testing.T) {
	b := opened(t)
	if got := b.s.Keys(); len(got) != 0 {
		t.Errorf("Keys: %q", got)
	}
	for _, key := range []string{"b", "a", "10", "9", "B", "ab", "", "aa", "ä", "\xff", "\x00", "a\x00", "b"} {
		b.do(put(key, "1"+key))
		b.look()
	}
	if got := b.s.Keys(); !slices.Equal(got, []string{"\x00", "10", "9", "B", "a", "a\x00", "aa", "ab", "b", "ä", "\xff"}) {
		t.Errorf("Keys: %q", got)
	}
	for _, value := range []string{"x", "", "\x00", "xyz", inRow(pair{"a", "1"}), "x", "\xff\xfe"} {
		b.do(put("a", value))
		if got, e := b.s.Get("a"); got != value || e != api.OK {
			t.Errorf("Get: %q, %v, want %q", got, e, value)
		}
		if got, e := b.s.Get("aa"); got != "1aa" || e != api.OK {
			t.Errorf("Get of another one: %q, %v", got, e)
		}
	}
	for _, key := range []string{"A", "a\x01", "aaa", "\xff\xff", "0"} {
		if got, e := b.s.Get(key); got != "" || e != api.ErrNone {
			t.Errorf("Get(%q): %q, %v", key, got, e)
		}
	}
	b.look()
}

// Promise 18.2: a value of as many bytes as may be, and one more; that changes nothing (R5).
func TestLongValues(t *testing.T) {
	for _, many := range []int{0, 1, 127, 128, 16383, 16384, 1<<16 - 1, 1 << 16} {
		b := opened(t)
		want(t, "Put", b.do(put("a", letters(many))), api.OK)
		wantHas(t, b.s, pair{"a", letters(many)})
		b.look()
		b.end(-1)
	}
	for _, many := range []int{1<<16 + 1, 1<<16 + 2, 1 << 17, api.MaxBytes, api.MaxBytes + 1, 5 * api.MaxBytes} {
		b := opened(t, put("a", "1"), fuse(0))
		want(t, "Put", b.do(put("a", letters(many))), api.ErrLong)
		want(t, "Put", b.do(put("b", letters(many))), api.ErrLong)
		b.look()
		want(t, "Put, of what may be", b.do(put("b", "2")), api.ErrDown)
		b.end(-1)
	}
}

// full is a store of the keys a to d that has room for so many bytes more, and a log of just these.
func full(t *testing.T, left int) *both {
	t.Helper()
	row := []pair{{"a", letters(1 << 16)}, {"b", letters(1 << 16)}, {"c", letters(1 << 16)}}
	row = append(row, pair{"d", fits(t, "d", api.MaxBytes-left-len(inRow(row...)))})
	return newBoth(t, found(row...)...)
}

// found are calls by which a store is there, with a log that is safe: that takes less time than to put all of it.
func found(row ...pair) []call {
	log := inRow(row...)
	return []call{write("log", log), crash(len(log)), {kind: opens}}
}

// Promise 18.2: what a store has may be, as a snap, as many bytes as a file may have, and not one more; a value that is put again takes the room of the one that was there.
func TestFull(t *testing.T) {
	least := len(pair{"e", ""}.bytes())
	for _, left := range []int{0, 1, least - 1, least, least + 1, least + 2} {
		for many := range left - least + 3 {
			b := full(t, left)
			expected := api.OK
			if least+many > left {
				expected = api.ErrLong
			}
			want(t, "Put of a new key", b.do(put("e", letters(many))), expected)
			b.look()
			b.end(-1)
		}
		b := full(t, left)
		want(t, "Put of a new key, a byte too much", b.do(put("e", letters(max(0, left-least+1)))), api.ErrLong)
		value, _ := b.s.Get("d")
		want(t, "Put again, a byte too much", b.do(put("d", value+letters(left+1))), api.ErrLong)
		want(t, "Put again, the same", b.do(put("d", value)), api.OK)
		want(t, "Put again, all that fits", b.do(put("d", value+letters(left))), api.OK)
		want(t, "Put of a new key, without room", b.do(put("e", "")), api.ErrLong)
		want(t, "Put again, a little", b.do(put("a", "")), api.OK)
		want(t, "Put of a new key, with room again", b.do(put("e", letters(60000))), api.OK)
		b.look()
		b.end(-1, -1)
	}
}

// Promise 18.2: too much is told ahead of a disk that is down, and takes nothing of a fuse.
func TestFullAndDown(t *testing.T) {
	b := full(t, 0)
	b.do(fuse(0))
	want(t, "Put of a new key", b.do(put("e", "")), api.ErrLong)
	b.do(fuse(1))
	want(t, "Put of a new key", b.do(put("e", "")), api.ErrLong)
	b.look()
	want(t, "Put again", b.do(put("a", "")), api.ErrDown)
	b.end(-1, -1, -1)
}

// Promise 18.2: a log that the record just fills is not compacted; one that it would make a byte too long is, ahead of the record.
func TestFullLog(t *testing.T) {
	for _, over := range []int{-1, 0, 1, 2} {
		b := opened(t)
		room := api.MaxBytes
		for _, value := range []string{letters(1 << 16), letters(1<<16 - 7), letters(1 << 15), letters(1 << 15), letters(1<<15 + 3)} {
			want(t, "Put", b.do(put("a", value)), api.OK)
			room -= len(pair{"a", value}.bytes())
		}
		want(t, "Put of another one", b.do(put("b", "2")), api.OK)
		room -= len(pair{"b", "2"}.bytes())
		log, _ := b.d.Read("log")
		last := pair{"c", fits(t, "c", room+over)}
		want(t, "Put of the last one", b.do(put(last.key, last.value)), api.OK)
		b.look()
		if over <= 0 {
			wantFile(t, b.d, "log", log+last.bytes())
			wantNames(t, b.d, "log")
		} else {
			wantFile(t, b.d, "snap", inRow(pair{"a", letters(1<<15 + 3)}, pair{"b", "2"}))
			wantFile(t, b.d, "log", last.bytes())
			wantNames(t, b.d, "log", "snap")
		}
		wantHas(t, b.s, pair{"a", letters(1<<15 + 3)}, pair{"b", "2"}, last)
		b.end(-1, -1)
	}
}

// nearlyFull are calls by which a store is there in whose log there is room for one short record, and no more.
func nearlyFull() []call {
	return found(pair{"a", "1"}, pair{"b", letters(1 << 16)}, pair{"c", letters(1 << 16)}, pair{"c", letters(1 << 16)}, pair{"d", letters(65300)}, pair{"d", ""}, pair{"e", letters(20)})
}

// Promises 18.2, 18.3: Put, with a log that is compacted first and without that, and Compact make their changes in their order and no others, up to the one that is refused; the store has then what it had.
func TestInOrder(t *testing.T) {
	for _, x := range []struct {
		begin []call
		ends  [][]int
	}{
		{nil, ends()},
		{[]call{put("a", "0")}, ends()},
		{[]call{put("a", "0"), {kind: compacts}, put("b", "2")}, ends()},
		{nearlyFull(), ends()[:3]},
	} {
		for _, c := range []call{put("a", "1"), put("new", ""), put("a", letters(1<<10)), {kind: compacts}} {
			for many := range 9 {
				for _, draws := range x.ends {
					b := opened(t, x.begin...)
					b.do(fuse(many))
					b.do(c)
					b.look()
					b.do(put("b", "next"))
					b.look()
					b.end(draws...)
				}
			}
		}
	}
}

// Promise 18.2: how many changes there are to be made: two of a Put, seven of one whose log is full, five of Compact.
func TestHowManyChanges(t *testing.T) {
	for _, x := range []struct {
		begin []call
		c     call
		many  int
	}{
		{nil, put("a", "1"), 2},
		{nearlyFull(), put("a", "1"), 2},
		{nearlyFull(), put("a", letters(1<<10)), 7},
		{nil, call{kind: compacts}, 5},
		{nearlyFull(), call{kind: compacts}, 5},
	} {
		for fuses := range x.many + 2 {
			b := opened(t, x.begin...)
			b.do(fuse(fuses))
			expected := api.OK
			if fuses < x.many {
				expected = api.ErrDown
			}
			want(t, "with a fuse of "+strconv.Itoa(fuses), b.do(x.c), expected)
		}
	}
}

// Promise 18.3: Compact: of each key one record, by keys; also of a store that has nothing, and again and again.
func TestCompact(t *testing.T) {
	b := opened(t, call{kind: compacts})
	b.look()
	wantFile(t, b.d, "snap", "")
	wantFile(t, b.d, "log", "")
	for _, key := range []string{"b", "10", "a", "9", "\xff", "a"} {
		b.do(put(key, "old"))
		b.do(put(key, "new"+key))
		for range 2 {
			b.do(call{kind: compacts})
			b.look()
			wantFile(t, b.d, "log", "")
			wantNames(t, b.d, "log", "snap")
		}
	}
	wantFile(t, b.d, "snap", inRow(pair{"10", "new10"}, pair{"9", "new9"}, pair{"a", "newa"}, pair{"b", "newb"}, pair{"\xff", "new\xff"}))
	b.end(-1, -1)
	b = full(t, 0)
	b.do(call{kind: compacts})
	b.look()
	if snap, _ := b.d.Read("snap"); len(snap) != api.MaxBytes {
		t.Errorf("the snap of a full store has %d bytes", len(snap))
	}
	b.end(-1, -1)
}

// Promises 18.1 to 18.3: a store that a disk has no room for: other files, or files that say more than a snap may have.
func TestNoRoom(t *testing.T) {
	others := func(many int) []call {
		var l []call
		for i := range many {
			l = append(l, write("other"+strconv.Itoa(i), "o"))
		}
		return l
	}
	b := newBoth(t, others(api.MaxFiles)...)
	want(t, "Open, without room for a log", b.do(call{kind: opens}), api.ErrLong)
	b.look()
	b = newBoth(t, append(others(api.MaxFiles-1), write("log", "torn"))...)
	want(t, "Open of a torn log, without room for temp", b.do(call{kind: opens}), api.ErrLong)
	b.look()
	b = newBoth(t, append(others(api.MaxFiles-1), write("temp", "t"))...)
	want(t, "Open, with temp's room for a log", b.do(call{kind: opens}), api.OK)
	b.look()
	want(t, "Put", b.do(put("a", "1")), api.OK)
	want(t, "Compact, without room for temp", b.do(call{kind: compacts}), api.ErrLong)
	want(t, "Put", b.do(put("a", "2")), api.OK)
	b.look()
	b.end(slices.Repeat([]int{1}, api.MaxFiles)...)

	most := pair{"a", fits(t, "a", api.MaxBytes)}
	for _, log := range []pair{{"b", fits(t, "b", api.MaxBytes)}, {"b", ""}, {"b", letters(1000)}} {
		b = newBoth(t, write("snap", inRow(most)), write("log", inRow(log)))
		want(t, "Open of too much", b.do(call{kind: opens}), api.OK)
		wantHas(t, b.s, most, log)
		want(t, "Compact of too much", b.do(call{kind: compacts}), api.ErrLong)
		want(t, "Put into too much", b.do(put("c", "")), api.ErrLong)
		b.look()
		b.do(put("a", letters(100)))
		b.look()
		b.do(call{kind: compacts})
		b.look()
		b.end(-1, -1)
	}
}

// Promises 18.2, 18.3, P1: as many keys as there may be, and each of them again and again.
func TestManyKeys(t *testing.T) {
	d := files.New()
	s := open(t, d)
	var had []pair
	for i := 0; ; i++ {
		key := string([]byte{'a' + byte(i/26/26), 'a' + byte(i/26%26), 'a' + byte(i%26)})
		e := s.Put(key, "")
		if e == api.ErrLong {
			break
		}
		want(t, "Put", e, api.OK)
		had = append(had, pair{key, ""})
	}
	if many := api.MaxBytes / len(had[0].bytes()); len(had) != many {
		t.Fatalf("%d keys, want %d", len(had), many)
	}
	wantHas(t, s, had...)
	wantHas(t, open(t, d), had...)
	for range 3 {
		for _, p := range had {
			want(t, "Put again", s.Put(p.key, ""), api.OK)
		}
	}
	wantHas(t, s, had...)
	want(t, "Crash", d.Crash([]int{-1, -1}), api.OK)
	wantHas(t, open(t, d), had...)
	wantFile(t, d, "snap", inRow(had...))
}

// Promises 18.2, P1: one key, put so often that the log is full many times.
func TestPutAgainAndAgain(t *testing.T) {
	d := files.New()
	s := open(t, d)
	for i := range 40000 {
		want(t, "Put", s.Put("a", strings.Repeat(strconv.Itoa(i%10), 1+i%100)), api.OK)
		if i%5000 == 0 {
			wantHas(t, open(t, d), told(t, s)...)
		}
	}
	wantHas(t, s, pair{"a", strings.Repeat("9", 100)})
	wantNames(t, d, "log", "snap")
}

// crashed does the calls on a store whose disk has the fuse, and crashes; had is what the store had by all Puts that answered OK, perhaps what it would have with the one that did not.
func crashed(t *testing.T, d *files.Disk, calls []call, n int, draws []int) (had, perhaps []pair) {
	t.Helper()
	s := open(t, d)
	had = told(t, s)
	want(t, "Fuse", d.Fuse(n), api.OK)
	perhaps = had
	for _, c := range calls {
		do := s.Compact
		if c.kind == puts {
			perhaps = with(had, pair{c.key, c.text})
			do = func() api.Errno { return s.Put(c.key, c.text) }
		}
		if len(c.text) > 1<<16 || len(inRow(perhaps...)) > api.MaxBytes {
			want(t, "a call of too much", do(), api.ErrLong)
			perhaps = had
			continue
		}
		e := do()
		if e == api.ErrDown {
			break
		}
		want(t, "a call with a fuse left", e, api.OK)
		had = perhaps
	}
	want(t, "Crash", d.Crash(draws), api.OK)
	return had, perhaps
}

// reopened opens, with crashes in the midst of that, too, and asks that what the store has is one of the two; the second time it must be the same.
func reopened(t *testing.T, d *files.Disk, had, perhaps []pair, draws []int) {
	t.Helper()
	for n := range 5 {
		want(t, "Fuse", d.Fuse(n), api.OK)
		if s, e := Open(d); e == api.OK {
			if got := told(t, s); !slices.Equal(got, had) && !slices.Equal(got, perhaps) {
				t.Fatalf("it has %.200q, want %.200q or %.200q", got, had, perhaps)
			}
		} else if e != api.ErrDown {
			t.Fatalf("Open: %v", e)
		}
		want(t, "Crash", d.Crash(draws), api.OK)
	}
	first := told(t, open(t, d))
	if !slices.Equal(first, had) && !slices.Equal(first, perhaps) {
		t.Fatalf("it has %.200q, want %.200q or %.200q", first, had, perhaps)
	}
	want(t, "Crash", d.Crash(draws), api.OK)
	wantHas(t, open(t, d), first...)
}

// Promise 18.4: all rows of a few calls behind a few others, with a crash ahead of each change, and all kinds of draws.
func TestWholeOrNotAtAll(t *testing.T) {
	choices := []call{put("a", "1"), put("a", "22"), put("b", ""), {kind: compacts}}
	var rows [][]call
	var grow func(row []call)
	grow = func(row []call) {
		rows = append(rows, row)
		if len(row) < 3 {
			for _, c := range choices {
				grow(append(row[:len(row):len(row)], c))
			}
		}
	}
	grow(nil)
	for _, row := range rows {
		for _, begin := range [][]call{nil, {put("a", "0"), {kind: compacts}, put("b", "0")}} {
			for n := range 5*len(row) + 1 {
				for _, draws := range ends() {
					d := files.New()
					crashed(t, d, begin, 100, nil)
					had, perhaps := crashed(t, d, row, n, draws)
					reopened(t, d, had, perhaps, draws)
				}
			}
		}
	}
}

// Promises 18.2, 18.4: the record that a crash tears, with each draw: the store that was refused has what it had; the next one has the record, if all its bytes are there, and else nothing of it.
func TestTornRecord(t *testing.T) {
	for _, value := range []string{"", "1", letters(130)} {
		size := len(pair{"k", value}.bytes())
		for draw := range 2*size + 2 {
			d := files.New()
			s := open(t, d)
			want(t, "Put", s.Put("a", "1"), api.OK)
			want(t, "Fuse", d.Fuse(1), api.OK)
			want(t, "Put", s.Put("k", value), api.ErrDown)
			wantHas(t, s, pair{"a", "1"})
			want(t, "Crash", d.Crash([]int{draw}), api.OK)
			has := []pair{{"a", "1"}}
			if draw%(size+1) == size {
				has = append(has, pair{"k", value})
			}
			wantHas(t, open(t, d), has...)
		}
	}
}

// Promise 18.4: what was put stays behind a crash, however much is torn; one draw below 0 takes all that was not synced.
func TestPutIsSafe(t *testing.T) {
	for _, begin := range [][]call{nil, nearlyFull()} {
		for _, draws := range ends() {
			b := opened(t, begin...)
			for _, c := range []call{put("a", "1"), put("b", letters(1000)), {kind: compacts}, put("a", "2"), put("f", "")} {
				want(t, "a call", b.do(c), api.OK)
				has := told(t, b.s)
				b.end(draws...)
				wantHas(t, b.s, has...)
			}
		}
	}
}

// drawnCall is of few keys, with short values, now and then with a long one.
func drawnCall(draw func(int) int) call {
	switch draw(40) {
	case 0:
		return call{kind: compacts}
	case 1:
		return put("k"+strconv.Itoa(draw(4)), letters(40000+draw(1<<15)))
	case 2:
		return put([]string{"", letters(65)}[draw(2)], "v")
	}
	return put("k"+strconv.Itoa(draw(12)), letters(draw(60)))
}

func drawnEnd(draw func(int) int) []int {
	var l []int
	for range draw(4) {
		l = append(l, []int{-1, draw(9), draw(200), draw(1 << 20), math.MaxInt - draw(9)}[draw(5)])
	}
	return l
}

// Promises 18.1 to 18.4: drawn calls in long rows, with fuses, crashes and others' bytes in the midst of them.
func TestDrawn(t *testing.T) {
	draw := tools.Noise()
	for range 40 {
		b := opened(t)
		for range 150 {
			switch draw(30) {
			case 0:
				b.do(fuse(draw(12)))
			case 1:
				b.end(drawnEnd(draw)...)
			case 2:
				b.do(call{kind: []int{writes, appends}[draw(2)], key: []string{"log", "temp", "other"}[draw(3)], text: letters(draw(20))})
				b.do(call{kind: opens})
			case 3:
				b.do(call{kind: opens})
			default:
				b.do(drawnCall(draw))
			}
			b.look()
		}
		b.end(drawnEnd(draw)...)
	}
}

// Promise 18.4: drawn calls, with a crash behind each few of them, on one disk that goes on.
func TestDrawnCrashes(t *testing.T) {
	draw := tools.Noise()
	for range 30 {
		d := files.New()
		for range 40 {
			var row []call
			for range draw(8) {
				if c := drawnCall(draw); c.kind == compacts || mayBe(c.key) {
					row = append(row, c)
				}
			}
			draws := drawnEnd(draw)
			had, perhaps := crashed(t, d, row, draw(25), draws)
			reopened(t, d, had, perhaps, draws)
		}
	}
}

// R4: texts that are handed in are not kept: their memory may become something else.
func TestTextsAreNotKept(t *testing.T) {
	key, value := []byte("key"), []byte("value")
	text := func(b []byte) string { return unsafe.String(unsafe.SliceData(b), len(b)) }
	d := files.New()
	s := open(t, d)
	for range 2 { // of a new key, and of one that is there
		want(t, "Put", s.Put(text(key), text(value)), api.OK)
	}
	asked := []byte("key")
	if got, e := s.Get(text(asked)); got != "value" || e != api.OK {
		t.Errorf("Get: %q, %v", got, e)
	}
	copy(key, "---")
	copy(value, "-----")
	copy(asked, "---")
	wantHas(t, s, pair{"key", "value"})
	want(t, "Compact", s.Compact(), api.OK)
	wantFile(t, d, "snap", inRow(pair{"key", "value"}))
}

// R4: an answer is new memory: what is done to one is not seen in another one, nor in the store.
func TestAnswersAreNew(t *testing.T) {
	d := files.New()
	s := open(t, d)
	for _, key := range []string{"aa", "bb", "cc"} {
		want(t, "Put", s.Put(key, "xyz"), api.OK)
	}
	for range 2 { // what was put, then what was read from a file
		first := s.Keys()
		second := s.Keys()
		for i := range first {
			if unsafe.StringData(first[i]) == unsafe.StringData(second[i]) {
				t.Error("two answers share", first[i])
			}
		}
		for i, room := 0, first[:cap(first)]; i < len(room); i++ {
			room[i] = "?"
		}
		if !slices.Equal(second, []string{"aa", "bb", "cc"}) {
			t.Error("the other answer:", second)
		}
		x, _ := s.Get("aa")
		y, _ := s.Get("aa")
		if unsafe.StringData(x) == unsafe.StringData(y) {
			t.Error("two answers share", x)
		}
		wantHas(t, s, pair{"aa", "xyz"}, pair{"bb", "xyz"}, pair{"cc", "xyz"})
		s = open(t, d)
	}
	x, _ := s.Get("aa")
	want(t, "Put", s.Put("aa", "other"), api.OK)
	want(t, "Compact", s.Compact(), api.OK)
	if x != "xyz" {
		t.Errorf("the answer became %q", x)
	}
}

// R5: Puts that are refused change nothing that a later call could tell.
func TestRefusedChangesNothing(t *testing.T) {
	for _, begin := range [][]call{nil, {put("a", "1")}, nearlyFull()} {
		for _, refused := range []call{put("", "x"), put(letters(65), "x"), put("a", letters(1<<16+1)), put("x", letters(api.MaxBytes))} {
			for n := range 3 {
				b, other := opened(t, begin...), opened(t, begin...)
				b.do(fuse(n))
				other.do(fuse(n))
				if b.do(refused) == api.OK {
					t.Error("not refused:", b.told())
				}
				b.look()
				for _, c := range []call{put("a", "next"), put("b", "")} {
					want(t, "behind it", b.do(c), other.do(c))
					b.look()
				}
				b.end(-1)
				other.end(-1)
				wantHas(t, b.s, told(t, other.s)...)
			}
		}
	}
}

// R7: the same calls tell the same, though keys are found in a map.
func TestSameCalls(t *testing.T) {
	draw := tools.Noise()
	for range 30 {
		d, again := files.New(), files.New()
		s, same := open(t, d), open(t, again)
		for range 100 {
			c := drawnCall(draw)
			if c.kind == compacts {
				want(t, "Compact", s.Compact(), same.Compact())
			} else {
				want(t, "Put", s.Put(c.key, c.text), same.Put(c.key, c.text))
			}
		}
		wantHas(t, s, told(t, same)...)
		wantNames(t, d, again.Names()...)
		for _, name := range d.Names() {
			has, _ := again.Read(name)
			wantFile(t, d, name, has)
		}
	}
}

// Promise 18.1, P1: files of any bytes; sealed makes frames of them, since made up bytes are none.
func FuzzOpen(f *testing.F) {
	f.Add("\x08\x03\x02\x02\x01a\x02\x011", "\x08\x03\x02\x02\x01a\x02\x012", true, true, 3)
	f.Add("\x08\x03\x02\x02\x01a\x02\x011\x08\x03\x02\x02\x01a\x02\x011", "", true, false, 9)
	f.Add("", "\x07\x03\x02\x02\x01b\x02\x00\x06\x03\x02\x02\x00\x02\x00", true, true, 1)
	f.Add(inRow(pair{"a", "1"}), inRow(pair{"b", "2"})+"torn", false, false, 2)
	f.Fuzz(func(t *testing.T, snap, log string, sealSnap, sealLog bool, n int) {
		b := newBoth(t)
		b.do(write("snap", sealed(snap, sealSnap)))
		b.do(write("log", sealed(log, sealLog)))
		b.do(write("temp", snap))
		b.do(fuse(n))
		b.do(call{kind: opens})
		b.look()
		b.do(put("a", log))
		b.do(call{kind: compacts})
		b.look()
		b.end(n, n/3, -1)
	})
}

// sealed makes a frame of each few bytes; how many, the byte ahead of them says.
func sealed(b string, seal bool) string {
	if !seal {
		return b
	}
	var all strings.Builder
	for len(b) > 0 {
		size := min(int(b[0]), len(b)-1)
		all.WriteString(framed(b[1 : 1+size]))
		b = b[1+size:]
	}
	return all.String()
}

// Promises 18.1 to 18.4, P1: rows of calls that are made up: of each its kind, its key, its value, and a number.
func FuzzStore(f *testing.F) {
	f.Add([]byte{2, 0, 0, 0, 0, 1, 1, 0, 3, 0, 0, 1, 0, 1, 9, 0, 4, 0, 0, 5}, "xyz")
	f.Add([]byte{6, 0, 3, 0, 2, 0, 0, 0, 1, 0, 0, 0, 3, 0, 0, 2, 1, 0, 0, 0, 4, 0, 0, 255}, "log")
	f.Add([]byte{5, 1, 2, 0, 5, 2, 2, 0, 2, 0, 0, 0}, "temp")
	f.Add([]byte{}, "")
	f.Fuzz(func(t *testing.T, rows []byte, text string) {
		names := []string{"log", "temp", "snap", text}
		b := newBoth(t)
		for ; len(rows) >= 4; rows = rows[4:] {
			n := int(int8(rows[3]))
			c := call{kind: int(rows[0]) % kinds, key: names[rows[1]%4], text: text[:min(len(text), int(rows[2]))], n: n, draws: []int{n, int(rows[1]), int(int8(rows[2]))}}
			if c.kind == puts {
				c.text = strings.Repeat(c.text, 1+int(rows[3]))
			}
			b.do(c)
		}
		b.look()
		b.end(1, -1, 20)
	})
}
