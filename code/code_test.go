package code

import (
	"bytes"
	"encoding/binary"
	"math"
	"reflect"
	"runtime"
	"slices"
	"strings"
	"testing"
	"unsafe"

	"flyover/api"
)

func number(n uint64) api.Item { return api.Item{Kind: api.KNumber, N: n} }

func text(s string) api.Item { return api.Item{Kind: api.KText, S: s} }

func list(l ...api.Item) api.Item { return api.Item{Kind: api.KList, L: l} }

func many(n int, x api.Item) []api.Item { return slices.Repeat([]api.Item{x}, n) }

// within puts x into so many lists that lie within one another.
func within(lists int, x api.Item) api.Item {
	for range lists {
		x = list(x)
	}
	return x
}

func written(b ...byte) string { return string(b) }

// behind answers lists that are opened one within the other, and what stands in the last one.
func behind(lists int, b string) string { return strings.Repeat("\x03\x01", lists) + b }

// same tells whether two items are the same; a list that is nil is one without members.
func same(x, y api.Item) bool {
	return x.Kind == y.Kind && x.N == y.N && x.S == y.S && slices.EqualFunc(x.L, y.L, same)
}

// brief answers the beginning of bytes, so that great ones do not fill what a test tells.
func brief(b string) []byte { return []byte(b[:min(len(b), 40)]) }

func wantBytes(t *testing.T, x api.Item, want string) {
	t.Helper()
	if b, e := Encode(x); e != api.OK || b != want {
		t.Errorf("Encode: %v, %d bytes %v, want %d bytes %v", e, len(b), brief(b), len(want), brief(want))
	}
}

func wantErrno(t *testing.T, name string, x api.Item, want api.Errno) {
	t.Helper()
	if b, e := Encode(x); e != want || b != "" {
		t.Errorf("%s: Encode: %v, %d bytes, want %v and none", name, e, len(b), want)
	}
}

func wantItem(t *testing.T, b string, want api.Item) {
	t.Helper()
	if x, f := Decode(b); f != (api.Fault{}) || !same(x, want) {
		t.Errorf("Decode of %d bytes %v: fault %v, or another item", len(b), brief(b), f)
	}
}

func wantFault(t *testing.T, b string, at int, e api.Errno) {
	t.Helper()
	x, f := Decode(b)
	if f != (api.Fault{At: at, Code: e}) {
		t.Errorf("Decode of %d bytes %v: %v, want {%d %d}", len(b), brief(b), f, at, e)
	}
	if x.Kind != 0 || x.N != 0 || x.S != "" || len(x.L) != 0 {
		t.Errorf("Decode of %d bytes %v: an item of the kind %d beside a fault", len(b), brief(b), x.Kind)
	}
}

// forms are items with their bytes, as the chapter says them.
func forms() []struct {
	x api.Item
	b string
} {
	return []struct {
		x api.Item
		b string
	}{
		{number(300), written(1, 172, 2)},
		{text("ab"), written(2, 2, 97, 98)},
		{list(number(300), text("ab")), written(3, 2, 1, 172, 2, 2, 2, 97, 98)},
		{number(0), written(1, 0)},
		{number(1), written(1, 1)},
		{number(127), written(1, 127)},
		{number(128), written(1, 128, 1)},
		{number(1<<14 - 1), written(1, 255, 127)},
		{number(1 << 14), written(1, 128, 128, 1)},
		{number(1<<21 - 1), written(1, 255, 255, 127)},
		{number(1 << 21), written(1, 128, 128, 128, 1)},
		{number(1<<63 - 1), written(1, 255, 255, 255, 255, 255, 255, 255, 255, 127)},
		{number(1 << 63), written(1, 128, 128, 128, 128, 128, 128, 128, 128, 128, 1)},
		{number(math.MaxUint64), written(1, 255, 255, 255, 255, 255, 255, 255, 255, 255, 1)},
		{text(""), written(2, 0)},
		{text("\x00"), written(2, 1, 0)},
		{text("\xff\x80\x03"), written(2, 3, 255, 128, 3)},
		{text(strings.Repeat("x", 127)), "\x02\x7f" + strings.Repeat("x", 127)},
		{text(strings.Repeat("x", 128)), "\x02\x80\x01" + strings.Repeat("x", 128)},
		{list(), written(3, 0)},
		{list(list(), list()), written(3, 2, 3, 0, 3, 0)},
		{list(text(""), list(number(7)), number(0)), written(3, 3, 2, 0, 3, 1, 1, 7, 1, 0)},
		{list(many(127, number(5))...), "\x03\x7f" + strings.Repeat("\x01\x05", 127)},
		{list(many(128, number(5))...), "\x03\x80\x01" + strings.Repeat("\x01\x05", 128)},
		{within(7, number(5)), behind(7, "\x01\x05")},
		{within(7, text("z")), behind(7, "\x02\x01z")},
		{within(7, list()), behind(7, "\x03\x00")},
	}
}

// Promise 2.1: the bytes of an item.
func TestEncode(t *testing.T) {
	for _, c := range forms() {
		wantBytes(t, c.x, c.b)
	}
}

// Promises 2.1, 2.2: numbers on both sides of each power of two, against the library's groups of seven bits.
func TestNumbers(t *testing.T) {
	for bit := range 64 {
		for _, n := range []uint64{1<<bit - 1, 1 << bit, 1<<bit + 1, math.MaxUint64 - 1<<bit} {
			b := string(binary.AppendUvarint([]byte{api.KNumber}, n))
			wantBytes(t, number(n), b)
			wantItem(t, b, number(n))
		}
	}
}

// Promise 2.1, R3: a list without members is the same, nil or empty, whatever the kind is.
func TestEncodeNilOrEmpty(t *testing.T) {
	empty := []api.Item{}
	wantBytes(t, api.Item{Kind: api.KNumber, N: 9, L: empty}, "\x01\x09")
	wantBytes(t, api.Item{Kind: api.KText, S: "z", L: empty}, "\x02\x01z")
	wantBytes(t, api.Item{Kind: api.KList, L: empty}, "\x03\x00")
	wantBytes(t, api.Item{Kind: api.KList}, "\x03\x00")
}

// Promise 2.1: items that may not be.
func TestEncodeKind(t *testing.T) {
	l := []api.Item{number(1)}
	for name, x := range map[string]api.Item{
		"no kind":                 {},
		"kind 4":                  {Kind: 4},
		"kind -1":                 {Kind: -1},
		"kind 257":                {Kind: 256 + api.KNumber},
		"greatest kind":           {Kind: math.MaxInt},
		"least kind":              {Kind: math.MinInt},
		"number with a text":      {Kind: api.KNumber, S: "a"},
		"number with members":     {Kind: api.KNumber, L: l},
		"text with a number":      {Kind: api.KText, N: 1},
		"text with members":       {Kind: api.KText, S: "a", L: l},
		"list with a number":      {Kind: api.KList, N: 1},
		"list with a text":        {Kind: api.KList, S: "a", L: l},
		"list with a great thing": {Kind: api.KList, N: math.MaxUint64, S: "a"},
	} {
		wantErrno(t, name, x, api.ErrKind)
		wantErrno(t, name+", last of a list", list(number(1), text("a"), x), api.ErrKind)
		wantErrno(t, name+" at depth 8", within(7, x), api.ErrKind)
	}
}

// Promise 2.1: depth 8 is the last one.
func TestEncodeDeep(t *testing.T) {
	for _, x := range []api.Item{number(1), text("a"), list()} {
		wantErrno(t, "depth 9", within(8, x), api.ErrDeep)
		wantErrno(t, "depth 9, behind others", list(number(1), within(7, list(text("a"), x))), api.ErrDeep)
	}
	wantErrno(t, "depth 300", within(299, number(1)), api.ErrDeep)
}

// Promise 2.1, P1: a list that has itself as a member lies too deep.
func TestEncodeCircle(t *testing.T) {
	l := make([]api.Item, 3)
	for i := range l {
		l[i] = api.Item{Kind: api.KList, L: l}
	}
	wantErrno(t, "circle", l[0], api.ErrDeep)
}

// Promises 2.1, 2.2: lists of as many members as may be, and one more.
func TestManyMembers(t *testing.T) {
	b := "\x03\x80\x80\x01" + strings.Repeat("\x01\x05", api.MaxItems)
	wantBytes(t, list(many(api.MaxItems, number(5))...), b)
	wantItem(t, b, list(many(api.MaxItems, number(5))...))

	wantErrno(t, "one more", list(many(api.MaxItems+1, number(5))...), api.ErrLong)
	wantErrno(t, "one more, within a list", list(number(1), list(many(api.MaxItems+1, number(5))...)), api.ErrLong)
	wantFault(t, "\x03\x81\x80\x01"+strings.Repeat("\x01\x05", api.MaxItems+1), 1, api.ErrLong)
	wantFault(t, "\x03\x81\x80\x01", 1, api.ErrLong)
	wantFault(t, "\x03\x80\x80\x01", 4, api.ErrEnd)
	wantFault(t, "\x03\x02\x01\x00\x03\x81\x80\x01", 5, api.ErrLong)
	wantFault(t, "\x03\xff\xff\xff\xff\xff\xff\xff\xff\xff\x01", 1, api.ErrLong)
	wantFault(t, "\x03\x80\x80\x80\x80\x80\x80\x80\x80\x80\x01", 1, api.ErrLong)
	wantFault(t, "\x03\x80\x80\x80\x80\x10", 1, api.ErrLong)
}

// Promises 2.1, 2.2: as many bytes as may be, and one more.
func TestManyBytes(t *testing.T) {
	const head = 4 // a kind, and a length of three groups
	full := strings.Repeat("x", api.MaxBytes-head)
	b, e := Encode(text(full))
	if e != api.OK || len(b) != api.MaxBytes {
		t.Fatalf("a text that fills all bytes: %v, %d bytes", e, len(b))
	}
	wantItem(t, b, text(full))
	wantErrno(t, "a text of one byte more", text(full+"x"), api.ErrLong)
	for _, size := range []int{api.MaxBytes - 1, api.MaxBytes, api.MaxBytes + 1, 64 * api.MaxBytes} {
		wantErrno(t, "a long text", text(strings.Repeat("x", size)), api.ErrLong)
		wantErrno(t, "a long text in a list", list(number(1), text(strings.Repeat("x", size))), api.ErrLong)
	}

	wantFault(t, b+"x", 0, api.ErrLong)
	wantFault(t, b[:api.MaxBytes-1], head, api.ErrEnd)
	wantFault(t, "\x01\x00"+b[:api.MaxBytes-2], 2, api.ErrMore)
	for _, wrong := range []string{"\x04", "\x01\x80\x00", "\x01\x00", "\x03\x81\x80\x01"} {
		wantFault(t, wrong+strings.Repeat("\x00", api.MaxBytes), 0, api.ErrLong)
	}
}

// Promises 2.1, 2.2: a list whose last member fills all bytes, and one more.
func TestManyBytesOfMembers(t *testing.T) {
	members := many(api.MaxItems-1, number(5))
	size := 4 + 2*len(members) + 4
	x := list(append(slices.Clip(members), text(strings.Repeat("y", api.MaxBytes-size)))...)
	b, e := Encode(x)
	if e != api.OK || len(b) != api.MaxBytes {
		t.Fatalf("a list that fills all bytes: %v, %d bytes", e, len(b))
	}
	wantItem(t, b, x)
	x.L[0] = number(128)
	wantErrno(t, "a list of one byte more", x, api.ErrLong)

	nearly := text(strings.Repeat("y", api.MaxBytes-10))
	wantErrno(t, "behind a text that nearly fills it", list(nearly, list(), list(), list()), api.ErrLong)
}

// Promise 2.1, P1: an item whose bytes would be far too many is refused without writing them.
func TestEncodeFarTooLong(t *testing.T) {
	x := list(many(api.MaxItems, text(strings.Repeat("x", api.MaxBytes)))...)
	wantErrno(t, "2^32 bytes", x, api.ErrLong)
	wantErrno(t, "2^45 bytes", list(many(1000, x)...), api.ErrLong)
	for _, x := range []api.Item{x, text(strings.Repeat("x", 64*api.MaxBytes))} {
		var before, after runtime.MemStats
		runtime.ReadMemStats(&before)
		Encode(x)
		runtime.ReadMemStats(&after)
		if got := after.TotalAlloc - before.TotalAlloc; got > 16*api.MaxBytes {
			t.Errorf("%d bytes of memory", got)
		}
	}
}

// Promise 2.1: where several things are wrong, an item is told ahead of its members, these in order.
func TestEncodeFirstWrong(t *testing.T) {
	none := api.Item{Kind: 9}
	long := list(many(api.MaxItems+1, number(5))...)
	bytes := text(strings.Repeat("x", api.MaxBytes+1))
	bothLongAndNone := long
	bothLongAndNone.N = 1
	longOfNone := list(many(api.MaxItems+1, none)...)
	noneAbove := list(within(8, number(1)))
	noneAbove.S = "a"
	for name, c := range map[string]struct {
		x    api.Item
		want api.Errno
	}{
		"too deep, and of no kind":              {within(8, none), api.ErrDeep},
		"too deep, and too many members":        {within(8, long), api.ErrDeep},
		"of no kind, with a member too deep":    {noneAbove, api.ErrKind},
		"of no kind, and too many members":      {bothLongAndNone, api.ErrKind},
		"number with too many members":          {api.Item{Kind: api.KNumber, L: long.L}, api.ErrKind},
		"too many members, of no kind":          {longOfNone, api.ErrLong},
		"too many members, at depth 8":          {within(7, long), api.ErrLong},
		"of no kind, then too deep":             {list(none, within(8, number(1))), api.ErrKind},
		"too deep, then of no kind":             {list(within(8, number(1)), none), api.ErrDeep},
		"of no kind, then too many members":     {list(none, long), api.ErrKind},
		"too many members, then of no kind":     {list(long, none), api.ErrLong},
		"too many members, then too deep":       {list(long, within(8, number(1))), api.ErrLong},
		"too deep, then too many members":       {list(within(8, number(1)), long), api.ErrDeep},
		"of no kind within, then too deep":      {list(list(list(none)), within(8, number(1))), api.ErrKind},
		"too many bytes, then of no kind":       {list(bytes, none), api.ErrKind},
		"too many bytes, then too deep":         {list(bytes, within(8, number(1))), api.ErrDeep},
		"too many bytes, and of no kind":        {api.Item{Kind: api.KText, N: 1, S: bytes.S}, api.ErrKind},
		"too many bytes, at depth 9":            {within(8, bytes), api.ErrDeep},
		"too many bytes, all else as it may be": {list(bytes, number(1)), api.ErrLong},
	} {
		wantErrno(t, name, c.x, c.want)
	}
}

// Promise 2.2: the item of bytes.
func TestDecode(t *testing.T) {
	for _, c := range forms() {
		wantItem(t, c.b, c.x)
	}
}

// Promise 2.2: the chapter's examples of bytes that are none, and others of each fault.
func TestDecodeFaults(t *testing.T) {
	for _, c := range []struct {
		b  string
		at int
		e  api.Errno
	}{
		{written(1, 128, 0), 1, api.ErrNumber},
		{written(3, 1), 2, api.ErrEnd},
		{written(4), 0, api.ErrKind},
		{written(1, 5, 0), 2, api.ErrMore},
		{written(2, 3, 97), 2, api.ErrEnd},
		{"", 0, api.ErrEnd},

		{written(0), 0, api.ErrKind},
		{written(255), 0, api.ErrKind},
		{written(129, 5), 0, api.ErrKind},
		{written(3, 2, 1, 5, 0), 4, api.ErrKind},
		{written(3, 2, 3, 1, 9, 4), 4, api.ErrKind},

		{written(1), 1, api.ErrEnd},
		{written(2), 1, api.ErrEnd},
		{written(3), 1, api.ErrEnd},
		{written(1, 128), 1, api.ErrEnd},
		{written(2, 255, 255), 1, api.ErrEnd},
		{written(3, 128, 128), 1, api.ErrEnd},
		{written(3, 2, 1, 5, 1, 200), 5, api.ErrEnd},
		{written(3, 2, 1, 5), 4, api.ErrEnd},
		{written(3, 2, 3, 0), 4, api.ErrEnd},

		{written(1, 255, 0), 1, api.ErrNumber},
		{written(1, 128, 128, 0), 1, api.ErrNumber},
		{written(2, 129, 0, 97), 1, api.ErrNumber},
		{written(3, 128, 0), 1, api.ErrNumber},
		{written(3, 1, 1, 128, 0), 3, api.ErrNumber},
		{written(1, 255, 255, 255, 255, 255, 255, 255, 255, 255, 0), 1, api.ErrNumber},
		{written(1, 255, 255, 255, 255, 255, 255, 255, 255, 255, 2), 1, api.ErrNumber},
		{written(1, 128, 128, 128, 128, 128, 128, 128, 128, 128, 2), 1, api.ErrNumber},
		{written(1, 129, 128, 128, 128, 128, 128, 128, 128, 128, 127), 1, api.ErrNumber},
		{written(1, 128, 128, 128, 128, 128, 128, 128, 128, 128, 128, 1), 1, api.ErrNumber},
		{written(1, 255, 255, 255, 255, 255, 255, 255, 255, 255, 129, 0), 1, api.ErrNumber},
		{written(2, 128, 128, 128, 128, 128, 128, 128, 128, 128, 128, 1), 1, api.ErrNumber},
		{written(3, 128, 128, 128, 128, 128, 128, 128, 128, 128, 128, 1), 1, api.ErrNumber},

		{written(2, 1), 2, api.ErrEnd},
		{written(2, 128, 1), 3, api.ErrEnd},
		{written(3, 1, 2, 2, 97), 4, api.ErrEnd},
		{written(2, 255, 255, 255, 255, 255, 255, 255, 255, 255, 1, 97), 11, api.ErrEnd},
		{written(2, 128, 128, 128, 128, 128, 128, 128, 128, 128, 1, 97), 11, api.ErrEnd},
		{written(2, 128, 128, 128, 128, 16, 97), 6, api.ErrEnd},

		{written(1, 5, 1, 5), 2, api.ErrMore},
		{written(2, 0, 97), 2, api.ErrMore},
		{written(2, 1, 97, 98), 3, api.ErrMore},
		{written(3, 0, 1, 5), 2, api.ErrMore},
		{written(3, 1, 1, 5, 4), 4, api.ErrMore},
	} {
		wantFault(t, c.b, c.at, c.e)
	}
}

// Promise 2.2: an item at depth 9 is too deep, whether it is one, none, or no byte stands there.
func TestDecodeDeep(t *testing.T) {
	for _, b := range []string{"\x01\x05", "\x02\x00", "\x03\x00", "\x01", "\x04", "\x01\x80\x00", ""} {
		wantFault(t, behind(8, b), 16, api.ErrDeep)
		wantFault(t, "\x03\x02\x01\x05"+behind(7, b), 18, api.ErrDeep)
		wantFault(t, behind(7, "\x03\x80\x80\x01"+b), 18, api.ErrDeep)
	}
	wantFault(t, strings.Repeat("\x03\x01", api.MaxBytes/2), 16, api.ErrDeep)
	wantFault(t, behind(7, "\x03\x81\x80\x01\x01\x05"), 15, api.ErrLong)
	wantFault(t, behind(7, "\x03\x80\x00"), 15, api.ErrNumber)
	wantFault(t, behind(7, "\x03"), 15, api.ErrEnd)
	wantFault(t, behind(7, "\x04"), 14, api.ErrKind)
	wantFault(t, behind(7, ""), 14, api.ErrEnd)
	wantFault(t, behind(7, "\x03\x00\x00"), 16, api.ErrMore)
}

// Promise 2.2, R1: bytes that end within a number are told ahead of a number that is already too great.
func TestDecodeEndAheadOfNumber(t *testing.T) {
	for _, kind := range []string{"\x01", "\x02", "\x03"} {
		for size := range 30 {
			wantFault(t, kind+strings.Repeat("\xff", size), 1, api.ErrEnd)
			wantFault(t, "\x03\x01"+kind+strings.Repeat("\x80", size), 3, api.ErrEnd)
		}
		wantFault(t, kind+strings.Repeat("\x80", api.MaxBytes-1), 1, api.ErrEnd)
		wantFault(t, kind+strings.Repeat("\x80", api.MaxBytes-2)+"\x01", 1, api.ErrNumber)
	}
}

// Promise 2.2: where several things are wrong, the first place is told.
func TestDecodeFirstWrong(t *testing.T) {
	for _, c := range []struct {
		b  string
		at int
		e  api.Errno
	}{
		{"\x03\x02\x04\x01\x80\x00", 2, api.ErrKind},
		{"\x03\x02\x01\x80\x00\x04", 3, api.ErrNumber},
		{"\x03\x02\x03\x81\x80\x01\x04", 3, api.ErrLong},
		{"\x03\x81\x80\x01\x04", 1, api.ErrLong},
		{"\x03\x81\x80\x81\x00\x04", 1, api.ErrNumber},
		{"\x03\x01\x04" + behind(9, ""), 2, api.ErrKind},
		{"\x03\x02" + behind(8, "") + "\x04", 16, api.ErrDeep},
		{"\x03\x02\x02\x05\x04", 4, api.ErrEnd},
		{"\x01\x80\x00\x04", 1, api.ErrNumber},
		{"\x01\x05\x04\x80", 2, api.ErrMore},
	} {
		wantFault(t, c.b, c.at, c.e)
	}
}

// Promise 2.2: bytes that end early, at each place, and bytes behind an item.
func TestDecodeCutAndMore(t *testing.T) {
	for _, c := range forms() {
		for size := range len(c.b) {
			if _, f := Decode(c.b[:size]); f != slowFault(c.b[:size]) || f.Code != api.ErrEnd {
				t.Errorf("Decode of %v: %v", brief(c.b[:size]), f)
			}
		}
		for more := range 256 {
			wantFault(t, c.b+string([]byte{byte(more)}), len(c.b), api.ErrMore)
		}
	}
}

// slowFault is another reading of promise 2.2: without calls of itself, and with the library's numbers.
func slowFault(b string) api.Fault {
	at := 0
	for open := []uint64{1}; len(open) > 0; {
		last := len(open) - 1
		if open[last] == 0 {
			open = open[:last]
			continue
		}
		open[last]--
		switch {
		case len(open) > api.MaxDepth:
			return api.Fault{At: at, Code: api.ErrDeep}
		case len(b) <= at:
			return api.Fault{At: at, Code: api.ErrEnd}
		case !strings.Contains("\x01\x02\x03", b[at:at+1]):
			return api.Fault{At: at, Code: api.ErrKind}
		}
		kind := b[at]
		at++
		end := strings.IndexFunc(b[at:], func(r rune) bool { return r < 128 })
		if end < 0 {
			return api.Fault{At: at, Code: api.ErrEnd}
		}
		n, size := binary.Uvarint([]byte(b[at : at+end+1]))
		if size != end+1 || end > 0 && b[at+end] == 0 {
			return api.Fault{At: at, Code: api.ErrNumber}
		}
		if kind == api.KList && n > api.MaxItems {
			return api.Fault{At: at, Code: api.ErrLong}
		}
		at += size
		if kind == api.KText {
			if n > uint64(len(b)-at) {
				return api.Fault{At: at, Code: api.ErrEnd}
			}
			at += int(n)
		}
		if kind == api.KList {
			open = append(open, n)
		}
	}
	if at < len(b) {
		return api.Fault{At: at, Code: api.ErrMore}
	}
	return api.Fault{}
}

// oneForm looks at what the promises 2.2 and 2.4 say of any bytes.
func oneForm(t *testing.T, b string) {
	t.Helper()
	x, f := Decode(b)
	if want := slowFault(b); f != want {
		t.Fatalf("Decode of %v: %v, want %v", brief(b), f, want)
	}
	if f.Code != api.OK {
		if !reflect.DeepEqual(x, api.Item{}) {
			t.Fatalf("Decode of %v: an item beside a fault", brief(b))
		}
		return
	}
	if again, e := Encode(x); e != api.OK || again != b {
		t.Fatalf("Decode of %v is encoded as %v, %v", brief(b), e, brief(again))
	}
}

// Promises 2.2, 2.4: all short bytes of those that mean something.
func TestAllShortBytes(t *testing.T) {
	letters := []byte{0, 1, 2, 3, 4, 127, 128, 129}
	var all func(b []byte, room int)
	all = func(b []byte, room int) {
		oneForm(t, string(b))
		if room == 0 {
			return
		}
		for _, letter := range letters {
			all(append(b, letter), room-1)
		}
	}
	all(make([]byte, 0, 8), 6)
	for first := range 256 {
		for second := range 256 {
			oneForm(t, written(byte(first), byte(second)))
			oneForm(t, written(3, 1, byte(first), byte(second)))
			oneForm(t, written(1, byte(first), byte(second)))
			oneForm(t, written(1, 255, 255, 255, 255, 255, 255, 255, 255, byte(first), byte(second)))
		}
	}
}

// smallItems answers all items of few members down to a depth.
func smallItems(depth int) []api.Item {
	all := []api.Item{number(0), number(128), text(""), text("\x03a"), list()}
	if depth == 1 {
		return all
	}
	inner := smallItems(depth - 1)
	for _, x := range inner {
		all = append(all, list(x))
		for _, y := range inner {
			all = append(all, list(x, y))
		}
	}
	return all
}

// Promise 2.4: what is encoded is decoded as the item, and no two items have the same bytes.
func TestItemsThereAndBack(t *testing.T) {
	seen := map[string]bool{}
	for _, x := range smallItems(3) {
		b, e := Encode(x)
		if e != api.OK {
			t.Fatalf("%v: %v", x, e)
		}
		wantItem(t, b, x)
		if seen[b] {
			t.Fatalf("%v: another item has the same bytes", x)
		}
		seen[b] = true
	}
	for lists := range api.MaxDepth {
		x := within(lists, list(number(1), text("a")))
		if lists == api.MaxDepth-1 {
			x = within(lists, text("a"))
		}
		b, e := Encode(x)
		if e != api.OK {
			t.Fatalf("%d lists: %v", lists, e)
		}
		wantItem(t, b, x)
	}
}

// Promise 2.4: one byte that is another one makes another item, or none.
func TestOneByteOther(t *testing.T) {
	for _, c := range forms() {
		for i := range len(c.b) {
			for other := range 256 {
				b := []byte(c.b)
				b[i] = byte(other)
				x, f := Decode(string(b))
				if f != slowFault(string(b)) {
					t.Fatalf("Decode of %v: %v", brief(string(b)), f)
				}
				if f.Code == api.OK && same(x, c.x) != (string(b) == c.b) {
					t.Fatalf("%v and %v are the same item", brief(string(b)), brief(c.b))
				}
			}
		}
	}
}

// R4: neither the item nor the room behind its lists is changed.
func TestEncodeLeavesItsArgument(t *testing.T) {
	mark := api.Item{Kind: 77, N: 7, S: "mark", L: []api.Item{{Kind: 78}}}
	inner := []api.Item{number(1), text("a"), mark, mark}
	outer := []api.Item{list(inner[:2]...), number(2), mark, mark}
	outer[0].L = inner[:2]
	before := []api.Item{list(inner...), list(outer...)}
	before[0].L, before[1].L = slices.Clone(inner), slices.Clone(outer)
	x := api.Item{Kind: api.KList, L: outer[:2]}
	wantBytes(t, x, "\x03\x02\x03\x02\x01\x01\x02\x01a\x01\x02")
	if !reflect.DeepEqual(inner, before[0].L) || !reflect.DeepEqual(outer, before[1].L) || len(x.L) != 2 {
		t.Error("Encode changed its argument, or the room behind it")
	}
}

// apart tells whether two texts share no memory.
func apart(a, b string) bool {
	if a == "" || b == "" {
		return true
	}
	from, to := uintptr(unsafe.Pointer(unsafe.StringData(a))), uintptr(unsafe.Pointer(unsafe.StringData(b)))
	return from+uintptr(len(a)) <= to || to+uintptr(len(b)) <= from
}

// R4: what Decode answers shares no memory with its argument, and its lists and texts share none.
func TestDecodeAnswersNewMemory(t *testing.T) {
	b := strings.Clone("\x03\x04\x03\x01\x01\x07\x03\x01\x01\x07\x02\x03abc\x02\x03abc")
	x, f := Decode(b)
	if f.Code != api.OK {
		t.Fatal(f)
	}
	again, _ := Decode(b)
	texts := []string{x.L[2].S, x.L[3].S, again.L[2].S, again.L[3].S, b}
	for i := range texts {
		for j := range i {
			if !apart(texts[i], texts[j]) {
				t.Errorf("the texts %d and %d share memory", i, j)
			}
		}
	}
	_ = append(x.L[0].L, number(99))
	_ = append(x.L[1].L, number(98))
	x.L[0].L[0] = number(97)
	_ = append(x.L, number(96))
	if !same(x.L[1], list(number(7))) || !same(again, list(list(number(7)), list(number(7)), text("abc"), text("abc"))) {
		t.Error("lists of the answers share memory")
	}
}

// R7: the same call tells the same.
func TestItemsTellTheSame(t *testing.T) {
	for _, c := range forms() {
		for range 3 {
			wantBytes(t, c.x, c.b)
			wantItem(t, c.b, c.x)
		}
	}
}

// Promises 2.2, 2.4, P1: bytes that are made up.
func FuzzDecode(f *testing.F) {
	for _, c := range forms() {
		f.Add([]byte(c.b))
		f.Add([]byte(c.b[:len(c.b)-1]))
	}
	f.Add([]byte(behind(8, "\x01\x05")))
	f.Add(bytes.Repeat([]byte{128}, 20))
	f.Fuzz(func(t *testing.T, b []byte) {
		if len(b) <= api.MaxBytes {
			oneForm(t, string(b))
		}
	})
}
