package mess

import (
	"math"
	"runtime"
	"slices"
	"strings"
	"testing"
	"unsafe"

	"flyover/api"
	"flyover/code"
	tools "flyover/plain"
)

// full are messages of all kinds, in which no field of their kind is zero.
func full() []api.Message {
	return []api.Message{
		{Kind: api.MJob, Epoch: 1, Level: 2, Cell: 3, Weights: []uint32{4, 0, math.MaxUint32}, Mats: []api.Matrix{{Level: 5, Cell: 6, Epoch: 7, D: []api.Dist{0, 300, api.Inf}}, {}, {Level: api.MaxTicks, Cell: api.MaxTicks, Epoch: api.MaxTicks}}},
		{Kind: api.MDone, Epoch: 1, Level: 2, Cell: 3, D: []api.Dist{0, api.Inf}},
		{Kind: api.MPart, Query: 5, Epoch: 1, Vertex: 7, Other: 8, Back: 1, Weights: []uint32{1, 200}},
		{Kind: api.MPiece, Query: 5, Epoch: api.MaxTicks, Back: 1, D: []api.Dist{3}},
	}
}

func aNumber(n uint64) api.Item { return api.Item{Kind: api.KNumber, N: n} }

func aList(l ...api.Item) api.Item { return api.Item{Kind: api.KList, L: l} }

// itemOfBytes is the item of bytes that are one.
func itemOfBytes(t *testing.T, b string) api.Item {
	t.Helper()
	x, f := code.Decode(b)
	if f != (api.Fault{}) {
		t.Fatalf("the bytes %v are no item: %v", bytesOf(b), f)
	}
	return x
}

func encoded(t *testing.T, m api.Message) string {
	t.Helper()
	b, e := Encode(m)
	if e != api.OK {
		t.Fatalf("Encode of %s: %v", brief(told(m)), e)
	}
	return b
}

func wantErrno(t *testing.T, what string, m api.Message, want api.Errno) {
	t.Helper()
	if b, e := Encode(m); b != "" || e != want {
		t.Errorf("%s: Encode: %d bytes, %v, want %v", what, len(b), e, want)
	}
}

// wantNone asks that an item is refused as none of a message.
func wantNone(t *testing.T, what string, x api.Item) {
	t.Helper()
	b, e := code.Encode(x)
	if e != api.OK {
		t.Fatalf("%s is no item: %v", what, e)
	}
	if m, f := wantDecode(t, b); f != (api.Fault{At: 0, Code: api.ErrMessage}) || !same(m, api.Message{}) {
		t.Errorf("%s: Decode: %s, %v", what, brief(told(m)), f)
	}
}

// Promises 20.1, 20.2: the chapter's examples.
func TestExamples(t *testing.T) {
	b := encoded(t, api.Message{Kind: api.MDone, Epoch: 1, Level: 2, Cell: 3, D: []api.Dist{0, api.Inf}})
	want, e := code.Encode(aList(aNumber(2), aNumber(1), aNumber(2), aNumber(3), aList(aNumber(0), aNumber(math.MaxUint64))))
	if b != want || e != api.OK {
		t.Errorf("%v, want %v", []byte(b), []byte(want))
	}
	wantErrno(t, "MPart with Back 2", api.Message{Kind: api.MPart, Back: 2}, api.ErrMessage)
	wantErrno(t, "MPiece with Weights", api.Message{Kind: api.MPiece, Weights: []uint32{0}}, api.ErrMessage)
	if m, f := Decode("\x01\x05"); f != (api.Fault{At: 0, Code: api.ErrMessage}) || !same(m, api.Message{}) {
		t.Errorf("Decode of a number: %s, %v", told(m), f)
	}
}

// Promises 20.1, 20.2: the bytes of each kind, as the chapter's table and chapter 2 say them.
func TestBytes(t *testing.T) {
	for at, want := range []string{
		"\x03\x06\x01\x01\x01\x01\x01\x02\x01\x03" + "\x03\x03\x01\x04\x01\x00\x01\xff\xff\xff\xff\x0f" +
			"\x03\x03" + "\x03\x04\x01\x05\x01\x06\x01\x07\x03\x03\x01\x00\x01\xac\x02\x01\xff\xff\xff\xff\xff\xff\xff\xff\xff\x01" + "\x03\x04\x01\x00\x01\x00\x01\x00\x03\x00" +
			"\x03\x04\x01\x80\x80\x80\x80\x04\x01\x80\x80\x80\x80\x04\x01\x80\x80\x80\x80\x04\x03\x00",
		"\x03\x05\x01\x02\x01\x01\x01\x02\x01\x03" + "\x03\x02\x01\x00\x01\xff\xff\xff\xff\xff\xff\xff\xff\xff\x01",
		"\x03\x07\x01\x03\x01\x05\x01\x01\x01\x07\x01\x08\x01\x01" + "\x03\x02\x01\x01\x01\xc8\x01",
		"\x03\x05\x01\x04\x01\x05\x01\x80\x80\x80\x80\x04\x01\x01" + "\x03\x01\x01\x03",
	} {
		m := full()[at]
		if b, e := wantEncode(t, m); b != want || e != api.OK {
			t.Errorf("Encode: %v, %v, want %v", []byte(b), e, []byte(want))
		}
		if x, f := wantDecode(t, want); !same(x, m) || f != (api.Fault{}) {
			t.Errorf("Decode: %s, %v, want %s", told(x), f, told(m))
		}
	}
	for kind, want := range map[int]string{
		api.MJob: "\x03\x06\x01\x01\x01\x00\x01\x00\x01\x00\x03\x00\x03\x00", api.MDone: "\x03\x05\x01\x02\x01\x00\x01\x00\x01\x00\x03\x00",
		api.MPart: "\x03\x07\x01\x03\x01\x00\x01\x00\x01\x00\x01\x00\x01\x00\x03\x00", api.MPiece: "\x03\x05\x01\x04\x01\x00\x01\x00\x01\x00\x03\x00",
	} {
		if b, e := wantEncode(t, api.Message{Kind: kind}); b != want || e != api.OK {
			t.Errorf("Encode of the kind %d: %v, %v, want %v", kind, []byte(b), e, []byte(want))
		}
	}
}

// numberField is one of a message's, and the kinds that have it.
type numberField struct {
	set   func(m *api.Message, n int)
	kinds []int
}

// numberFields are all but Kind.
func numberFields() map[string]numberField {
	return map[string]numberField{
		"Epoch":  {func(m *api.Message, n int) { m.Epoch = n }, []int{1, 2, 3, 4}},
		"Level":  {func(m *api.Message, n int) { m.Level = n }, []int{1, 2}},
		"Cell":   {func(m *api.Message, n int) { m.Cell = n }, []int{1, 2}},
		"Query":  {func(m *api.Message, n int) { m.Query = n }, []int{3, 4}},
		"Vertex": {func(m *api.Message, n int) { m.Vertex = n }, []int{3}},
		"Other":  {func(m *api.Message, n int) { m.Other = n }, []int{3}},
		"Back":   {func(m *api.Message, n int) { m.Back = n }, []int{3, 4}},
	}
}

// ticks are numbers around the bounds.
func ticks() []int {
	return []int{0, 1, 2, 127, 128, api.MaxItems, 1<<29 + 5, api.MaxTicks - 1, api.MaxTicks, api.MaxTicks + 1, math.MaxInt32, 1 << 31, 1 << 32, 1<<32 + 1, 1<<40 - 1, math.MaxInt, -1, -2, -api.MaxTicks, -1 << 31, -1 << 32, math.MinInt, math.MinInt + 1}
}

// Promises 20.1, 20.2, P1: each number of each kind, within its bounds, at them, and outside; of kinds that have not that field it is zero.
func TestNumberFields(t *testing.T) {
	for name, field := range numberFields() {
		for _, m := range append(full(), api.Message{Kind: 1}, api.Message{Kind: 2}, api.Message{Kind: 3}, api.Message{Kind: 4}) {
			for _, n := range ticks() {
				x := m
				field.set(&x, n)
				most := api.MaxTicks
				if name == "Back" {
					most = 1
				}
				if !slices.Contains(field.kinds, m.Kind) {
					most = 0
				}
				want := api.OK
				if n < 0 || n > most {
					want = api.ErrMessage
				}
				if _, e := wantEncode(t, x); e != want {
					t.Errorf("%s %d of the kind %d: %v, want %v", name, n, m.Kind, e, want)
				}
			}
		}
	}
}

// Promises 20.1, P1: kinds that are none, of messages that have nothing else wrong.
func TestKinds(t *testing.T) {
	for _, kind := range []int{0, -1, -2, -3, -4, 5, 6, 7, 8, 9, 10, 63, 64, 127, 255, 257, 258, 1<<32 + 1, 1<<32 + 2, -1 << 32, math.MinInt, math.MinInt + 1, math.MaxInt} {
		for _, m := range append(full(), api.Message{}) {
			m.Kind = kind
			wantErrno(t, "no kind", m, api.ErrMessage)
			wantEncode(t, m)
		}
		if kind >= 0 {
			for many := range 9 {
				l := append([]api.Item{aNumber(uint64(kind))}, slices.Repeat([]api.Item{aNumber(0)}, many)...)
				wantNone(t, "no kind", aList(l...))
				wantNone(t, "no kind", aList(append(l, aList())...))
				wantNone(t, "no kind", aList(append(l, aList(), aList())...))
			}
		}
	}
}

// Promise 20.1, R3: lists of fields that the kind has not must be without members, nil or empty.
func TestListsOfOtherKinds(t *testing.T) {
	for _, m := range append(full(), api.Message{Kind: 1}, api.Message{Kind: 2}, api.Message{Kind: 3}, api.Message{Kind: 4}) {
		want := encoded(t, m)
		x := m
		if len(x.Weights) == 0 {
			x.Weights = []uint32{}
		}
		if len(x.Mats) == 0 {
			x.Mats = []api.Matrix{}
		}
		if len(x.D) == 0 {
			x.D = []api.Dist{}
		}
		if b, e := wantEncode(t, x); b != want || e != api.OK {
			t.Errorf("the kind %d with empty lists: %v, %v, want %v", m.Kind, []byte(b), e, []byte(want))
		}
		x = m
		if x.Weights = []uint32{0}; m.Kind == api.MDone || m.Kind == api.MPiece {
			wantErrno(t, "Weights", x, api.ErrMessage)
		}
		wantEncode(t, x)
		x = m
		if x.Mats = []api.Matrix{{}}; m.Kind != api.MJob {
			wantErrno(t, "Mats", x, api.ErrMessage)
		}
		wantEncode(t, x)
		x = m
		if x.D = []api.Dist{0}; m.Kind == api.MJob || m.Kind == api.MPart {
			wantErrno(t, "D", x, api.ErrMessage)
		}
		wantEncode(t, x)
	}
}

// Promises 20.1, 20.2: the numbers of a job's matrices, wherever one stands among others, within their bounds and outside.
func TestMatrixFields(t *testing.T) {
	for many := 1; many <= 3; many++ {
		for at := range many {
			for _, n := range ticks() {
				for _, x := range []api.Matrix{{Level: n}, {Cell: n}, {Epoch: n}, {Level: n, Cell: n, Epoch: n, D: []api.Dist{1}}} {
					l := make([]api.Matrix, many)
					l[at] = x
					want := api.OK
					if n < 0 || n > api.MaxTicks {
						want = api.ErrMessage
					}
					if _, e := wantEncode(t, api.Message{Kind: api.MJob, Mats: l}); e != want {
						t.Errorf("a matrix %v: %v, want %v", x, e, want)
					}
				}
			}
		}
	}
}

// Promises 20.1, 20.2: weights and distances may be all numbers of their types.
func TestListNumbers(t *testing.T) {
	for bit := range 64 {
		for _, n := range []uint64{1<<bit - 1, 1 << bit, 1<<bit + 1, math.MaxUint64 - 1<<bit} {
			l, w := []api.Dist{0, api.Dist(n)}, []uint32{uint32(n), 7}
			wantEncode(t, api.Message{Kind: api.MDone, D: l})
			wantEncode(t, api.Message{Kind: api.MPiece, D: l})
			wantEncode(t, api.Message{Kind: api.MPart, Weights: w})
			wantEncode(t, api.Message{Kind: api.MJob, Weights: w, Mats: []api.Matrix{{D: l}, {D: l[1:]}}})

			// What stands for a weight may be read as none that is too great.
			_, f := wantDecode(t, writtenItem(t, aList(aNumber(3), aNumber(0), aNumber(0), aNumber(0), aNumber(0), aNumber(0), aList(aNumber(n)))))
			if is := f == (api.Fault{}); is != (n <= math.MaxUint32) {
				t.Errorf("the weight %d: %v", n, f)
			}
			_, f = wantDecode(t, writtenItem(t, aList(aNumber(1), aNumber(0), aNumber(0), aNumber(0), aList(aNumber(1), aNumber(n)), aList())))
			if is := f == (api.Fault{}); is != (n <= math.MaxUint32) {
				t.Errorf("the weight %d: %v", n, f)
			}
		}
	}
}

func writtenItem(t *testing.T, x api.Item) string {
	t.Helper()
	b, e := code.Encode(x)
	if e != api.OK {
		t.Fatal(e)
	}
	return b
}

// Promise 20.1, R1: lists of as many members as may be, and of one more: that is told ahead of all else that is wrong.
func TestLongLists(t *testing.T) {
	for _, kind := range []int{1, 2, 3, 4, 0, 5, -1, math.MaxInt} {
		for _, epoch := range []int{0, -1} {
			for _, many := range []int{api.MaxItems + 1, api.MaxItems + 2, 2 * api.MaxItems, 100000} {
				for _, m := range []api.Message{{Weights: make([]uint32, many)}, {Mats: make([]api.Matrix, many)}, {D: make([]api.Dist, many)}, {Mats: []api.Matrix{{}, {D: make([]api.Dist, many)}, {Level: -1}}}, {Mats: []api.Matrix{{Level: -1}, {}, {D: make([]api.Dist, many)}}}} {
					m.Kind, m.Epoch = kind, epoch
					wantErrno(t, "a long list", m, api.ErrLong)
				}
			}
		}
	}
	some := make([]api.Dist, api.MaxItems, 2*api.MaxItems)
	for _, m := range []api.Message{{Kind: 1, Weights: make([]uint32, api.MaxItems)}, {Kind: 1, Mats: make([]api.Matrix, api.MaxItems)}, {Kind: 2, D: some}, {Kind: 3, Weights: make([]uint32, api.MaxItems)}, {Kind: 4, D: some}, {Kind: 1, Mats: []api.Matrix{{}, {D: some}, {D: some}, {D: some}}}} {
		if _, e := wantEncode(t, m); e != api.OK {
			t.Errorf("the kind %d with a list as long as may be: %v", m.Kind, e)
		}
		m.Query = -1
		wantErrno(t, "Query -1 beside a list as long as may be", m, api.ErrMessage)
	}
}

// sized is a job of just so many bytes, as the second reading writes it.
func sized(t *testing.T, bytes int) api.Message {
	t.Helper()
	// The last list is that long already that its length does not take one more byte in the end.
	m := api.Message{Kind: api.MJob, Weights: slices.Repeat([]uint32{math.MaxUint32}, api.MaxItems), Mats: []api.Matrix{{D: slices.Repeat([]api.Dist{api.Inf}, 14000)}, {D: make([]api.Dist, 200)}}}
	for lack := bytes - len(plainBytes(m)); lack > 0; {
		// A number of one group takes two bytes, and each group more another one.
		size := min(lack, 11)
		if lack-size == 1 {
			size--
		}
		m.Mats[1].D = append(m.Mats[1].D, 1<<(7*(size-2)))
		lack -= size
	}
	if many := len(plainBytes(m)); many != bytes {
		t.Fatalf("%d bytes, want %d", many, bytes)
	}
	return m
}

// Promises 20.1, 20.2: as many bytes as may be, and one more.
func TestManyBytes(t *testing.T) {
	for bytes := api.MaxBytes - 30; bytes <= api.MaxBytes+30; bytes++ {
		m := sized(t, bytes)
		b, e := wantEncode(t, m)
		if bytes <= api.MaxBytes && (len(b) != bytes || e != api.OK) || bytes > api.MaxBytes && e != api.ErrLong {
			t.Errorf("%d bytes, %v, want %d", len(b), e, bytes)
		}
		m.Cell = -1
		wantErrno(t, "a job of many bytes that may not be", m, api.ErrMessage)
	}
	long := plainBytes(sized(t, api.MaxBytes+1))
	if _, f := wantDecode(t, long); f != (api.Fault{At: 0, Code: api.ErrLong}) {
		t.Errorf("Decode of one byte more: %v", f)
	}
	if _, f := wantDecode(t, long[:api.MaxBytes]); f.Code != api.ErrEnd {
		t.Errorf("Decode of what is cut off: %v", f)
	}
}

// Promise 20.1: lists of numbers of one byte each, around the most that go into a message.
func TestManySmallNumbers(t *testing.T) {
	for many := 130990; many <= 131080; many++ {
		m := api.Message{Kind: api.MJob}
		for left := many; left > 0; left -= api.MaxItems {
			m.Mats = append(m.Mats, api.Matrix{D: make([]api.Dist, min(left, api.MaxItems))})
		}
		want := api.OK
		if len(plainBytes(m)) > api.MaxBytes {
			want = api.ErrLong
		}
		if b, e := Encode(m); e != want || e == api.OK && b != plainBytes(m) {
			t.Errorf("%d numbers: %d bytes, %v, want %v", many, len(b), e, want)
		}
	}
}

// Promise 20.1, P1: a job of as many matrices as may be, all of as many distances as may be, is refused at once, and without much memory.
func TestFarTooLong(t *testing.T) {
	m := api.Message{Kind: api.MJob, Mats: slices.Repeat([]api.Matrix{{D: make([]api.Dist, api.MaxItems)}}, api.MaxItems)}
	var ahead, behind runtime.MemStats
	runtime.ReadMemStats(&ahead)
	wantErrno(t, "far too long", m, api.ErrLong)
	runtime.ReadMemStats(&behind)
	if bytes := behind.TotalAlloc - ahead.TotalAlloc; bytes > 1<<26 {
		t.Errorf("Encode took %d bytes", bytes)
	}
	m.Mats[api.MaxItems-1].Cell = -1
	wantErrno(t, "far too long, and none that may be", m, api.ErrMessage)
}

// Promise 20.2, R1: bytes that are no item: what chapter 2's Decode refuses, at its place: of all cuts of messages, all changes of one byte, and bytes behind.
func TestNoItem(t *testing.T) {
	for _, b := range []string{"", "\x00", "\x01", "\x03\x05\x01", "\x02\x03ab", "\x04\x00", "\x01\x80\x00", strings.Repeat("\x03\x01", 9), strings.Repeat("x", api.MaxBytes+1)} {
		_, want := code.Decode(b)
		if m, f := wantDecode(t, b); f != want || f.Code == api.OK || !same(m, api.Message{}) {
			t.Errorf("Decode of %v: %s, %v, want %v", bytesOf(b), told(m), f, want)
		}
	}
	for _, m := range full() {
		b := encoded(t, m)
		for at := range len(b) {
			if _, f := wantDecode(t, b[:at]); f.Code == api.OK {
				t.Errorf("%v is a message", []byte(b[:at]))
			}
			for x := range 256 {
				wantDecode(t, b[:at]+string([]byte{byte(x)})+b[at+1:])
			}
		}
		if _, f := wantDecode(t, b+"\x00"); f != (api.Fault{At: len(b), Code: api.ErrMore}) {
			t.Errorf("a byte behind: %v", f)
		}
	}
}

// Promise 20.2: items of which one member, at any place and any depth, is another thing: a text, a list in place of a number, a number in place of a list, or one member lacks, or is there twice.
func TestNoMessage(t *testing.T) {
	text := api.Item{Kind: api.KText, S: "\x01"}
	for _, x := range []api.Item{text, {Kind: api.KText}, aNumber(0), aNumber(2), aList(), aList(aList()), aList(text), aList(aNumber(2))} {
		wantNone(t, "little", x)
	}
	for _, m := range full() {
		whole := itemOfBytes(t, encoded(t, m))
		wantNone(t, "a message in a list", aList(whole))
		for at, x := range whole.L {
			for _, other := range []api.Item{text, {Kind: api.KText}, aList(), aList(x), aNumber(uint64(len(x.L)))} {
				isStill := x.Kind == other.Kind && len(other.L) == 0
				if isStill {
					continue
				}
				l := slices.Clone(whole.L)
				l[at] = other
				wantNone(t, "another member", aList(l...))
			}
			wantNone(t, "a member lacks", aList(slices.Delete(slices.Clone(whole.L), at, at+1)...))
			wantNone(t, "a member twice", aList(slices.Insert(slices.Clone(whole.L), at, x)...))
			for within := range x.L {
				for _, other := range []api.Item{text, {Kind: api.KText}, aList(), aList(aNumber(0)), aList(aNumber(0), aNumber(0), aNumber(0), aNumber(0)), aList(aNumber(0), aNumber(0), aNumber(0), text)} {
					l := slices.Clone(whole.L)
					l[at] = aList(slices.Clone(x.L)...)
					l[at].L[within] = other
					wantNone(t, "another member of a list", aList(l...))
				}
			}
		}
		wantNone(t, "one more", aList(append(slices.Clone(whole.L), aNumber(0))...))
		wantNone(t, "one more", aList(append(slices.Clone(whole.L), aList())...))
	}
}

// Promise 20.2: matrices of which one member is another thing, or lacks, or is there twice.
func TestNoMatrix(t *testing.T) {
	right := aList(aNumber(1), aNumber(2), aNumber(3), aList(aNumber(4)))
	try := func(x api.Item) {
		t.Helper()
		for _, l := range [][]api.Item{{x}, {right, x}, {x, right}, {right, x, right}} {
			wantNone(t, "a job", aList(aNumber(1), aNumber(0), aNumber(0), aNumber(0), aList(), aList(l...)))
		}
	}
	try(aNumber(4))
	try(aList())
	try(api.Item{Kind: api.KText, S: "abcd"})
	for at, x := range right.L {
		for _, other := range []api.Item{{Kind: api.KText, S: "a"}, {Kind: api.KText}, aList(aList()), aList(x, aList()), aList(aNumber(0), api.Item{Kind: api.KText}), aNumber(api.MaxTicks + 1), aNumber(1 << 63), aNumber(math.MaxUint64), aNumber(1<<32 + 1)} {
			l := slices.Clone(right.L)
			l[at] = other
			try(aList(l...))
		}
		try(aList(slices.Delete(slices.Clone(right.L), at, at+1)...))
		try(aList(slices.Insert(slices.Clone(right.L), at, x)...))
	}
	try(aList(aNumber(1), aNumber(2), aNumber(3), aNumber(4)))
	try(aList(aNumber(1), aNumber(2), aList(), aList()))
}

// Promise 20.2: numbers that are too great for where they stand, also those that turn over to what might be.
func TestGreatNumbers(t *testing.T) {
	for _, m := range full() {
		whole := itemOfBytes(t, encoded(t, m))
		for at, x := range whole.L {
			if x.Kind != api.KNumber {
				continue
			}
			for _, n := range []uint64{api.MaxTicks + 1, 1 << 31, 1 << 32, 1<<32 + x.N, 1 << 63, 1<<63 + x.N, math.MaxUint64, math.MaxUint64 - 1, math.MaxInt64} {
				l := slices.Clone(whole.L)
				l[at] = aNumber(n)
				wantNone(t, "a great number", aList(l...))
			}
		}
	}
}

// Promise 20.2: all items that are lists of a kind and of a few members out of these, against the second reading.
func TestAllItems(t *testing.T) {
	members := []api.Item{aNumber(0), aNumber(2), aList(), aList(aNumber(1)), {Kind: api.KText}, aList(aList(aNumber(0), aNumber(0), aNumber(0), aList()))}
	messages := 0
	var grow func(l []api.Item)
	grow = func(l []api.Item) {
		if _, f := wantDecode(t, writtenItem(t, aList(l...))); f == (api.Fault{}) {
			messages++
		}
		if len(l) < 6 {
			for _, x := range members {
				grow(append(l[:len(l):len(l)], x))
			}
		}
	}
	for kind := range 6 {
		grow([]api.Item{aNumber(uint64(kind))})
	}
	// Jobs: each of three numbers is 0 or 2, the weights one of two lists, the matrices one of two; matrices Done: three such numbers and one of two lists; pieces: two such numbers, Back 0, and one of two lists; parts have seven members.
	if messages != 2*2*2*2*2+2*2*2*2+2*2*2 {
		t.Errorf("%d messages", messages)
	}
	for _, back := range []uint64{0, 1, 2, 3} {
		for _, last := range members {
			wantDecode(t, writtenItem(t, aList(aNumber(3), aNumber(1), aNumber(2), aNumber(3), aNumber(4), aNumber(back), last)))
		}
	}
}

// someMatrices are some, also such as no message may have.
func someMatrices() []api.Matrix {
	return []api.Matrix{
		{}, {Level: 1, Cell: 2, Epoch: 3, D: []api.Dist{4}}, {Level: 3, Cell: 1, Epoch: 2, D: []api.Dist{0, api.Inf, 5, 0}}, {Level: api.MaxTicks, Cell: api.MaxTicks, Epoch: api.MaxTicks, D: []api.Dist{}},
		{Level: -1, Cell: math.MinInt, Epoch: math.MaxInt, D: []api.Dist{1, 2, 3}}, {Level: math.MaxInt, Cell: api.MaxTicks + 1, Epoch: -1, D: []api.Dist{1}}, {Level: 5, Cell: 1023, Epoch: 7, D: make([]api.Dist, api.MaxItems)}, {Level: 5, D: make([]api.Dist, 1<<20)},
	}
}

// Promise 20.3: Done, and Matrix of what is Done.
func TestDone(t *testing.T) {
	for _, m := range someMatrices() {
		done := Done(m)
		want := api.Message{Kind: 2, Epoch: m.Epoch, Level: m.Level, Cell: m.Cell, D: m.D}
		if !same(done, want) {
			t.Errorf("Done: %s, want %s", brief(told(done)), brief(told(want)))
		}
		back, e := Matrix(done)
		if e != api.OK || !same(api.Message{Mats: []api.Matrix{back}}, api.Message{Mats: []api.Matrix{m}}) {
			t.Errorf("Matrix: %d, %d, %d, %d distances, %v, want %d, %d, %d, %d", back.Level, back.Cell, back.Epoch, len(back.D), e, m.Level, m.Cell, m.Epoch, len(m.D))
		}
		wantEncode(t, done)
	}
}

// Promise 20.3: Matrix asks the Kind alone: of what else the message has, also what may not be, nothing comes.
func TestMatrixOfMore(t *testing.T) {
	m := api.Message{Kind: api.MDone, Epoch: 1, Level: 2, Cell: 3, Query: 4, Vertex: -5, Other: 6, Back: 7, Weights: []uint32{8}, Mats: []api.Matrix{{Level: 9, D: []api.Dist{10}}}, D: []api.Dist{11}}
	if x, e := Matrix(m); e != api.OK || x.Epoch != 1 || x.Level != 2 || x.Cell != 3 || !slices.Equal(x.D, []api.Dist{11}) {
		t.Errorf("%v, %v", x, e)
	}
}

// Promise 20.3, R5: Matrix of messages of other kinds.
func TestMatrixOfOthers(t *testing.T) {
	for _, kind := range []int{0, 1, 3, 4, 5, -1, -2, 258, 1<<32 + 2, math.MinInt, math.MaxInt} {
		m := api.Message{Kind: kind, Epoch: 1, Level: 2, Cell: 3, D: []api.Dist{4}, Mats: []api.Matrix{{Level: 1}}}
		if x, e := Matrix(m); e != api.ErrMessage || x.Level != 0 || x.Cell != 0 || x.Epoch != 0 || len(x.D) > 0 {
			t.Errorf("Matrix of the kind %d: %v, %v", kind, x, e)
		}
	}
}

// drawnMessage may mostly be.
func drawnMessage(draw func(int) int) api.Message {
	tick := func() int { return []int{draw(5), draw(300), draw(api.MaxTicks + 1), api.MaxTicks, 0}[draw(5)] }
	dists := func() (l []api.Dist) {
		for range draw(12) {
			l = append(l, tools.Dist(draw))
		}
		return l
	}
	weights := func() (l []uint32) {
		for range draw(12) {
			l = append(l, []uint32{0, uint32(draw(300)), uint32(draw(1 << 20)), math.MaxUint32}[draw(4)])
		}
		return l
	}
	m := api.Message{Kind: 1 + draw(4), Epoch: tick()}
	switch m.Kind {
	case api.MJob:
		m.Level, m.Cell, m.Weights = tick(), tick(), weights()
		for range draw(4) {
			m.Mats = append(m.Mats, api.Matrix{Level: tick(), Cell: tick(), Epoch: tick(), D: dists()})
		}
	case api.MDone:
		m.Level, m.Cell, m.D = tick(), tick(), dists()
	case api.MPart:
		m.Query, m.Vertex, m.Other, m.Back, m.Weights = tick(), tick(), tick(), draw(2), weights()
	case api.MPiece:
		m.Query, m.Back, m.D = tick(), draw(2), dists()
	}
	return m
}

// spoilt is m with one thing changed, which often makes it one that may not be.
func spoilt(draw func(int) int, m api.Message) api.Message {
	n := ticks()[draw(len(ticks()))]
	switch draw(12) {
	case 0:
		m.Kind = n
	case 1:
		m.Kind = draw(6)
	case 2:
		m.Epoch = n
	case 3:
		m.Level = n
	case 4:
		m.Cell = n
	case 5:
		m.Query = n
	case 6:
		m.Vertex = n
	case 7:
		m.Other = n
	case 8:
		m.Back = n
	case 9:
		m.Weights = make([]uint32, draw(3))
	case 10:
		m.Mats = []api.Matrix{{Level: draw(2), Cell: n, D: make([]api.Dist, draw(3))}}
	case 11:
		m.D = make([]api.Dist, draw(3))
	}
	return m
}

// Promises 20.1, 20.2, 20.4: drawn messages, and such with something changed, against the second reading; what is encoded is decoded as the message.
func TestDrawn(t *testing.T) {
	draw := tools.Noise()
	refused := 0
	for range 20000 {
		m := drawnMessage(draw)
		if _, e := wantEncode(t, m); e != api.OK {
			t.Fatalf("%s: %v", told(m), e)
		}
		if _, e := wantEncode(t, spoilt(draw, m)); e != api.OK {
			refused++
		}
	}
	if refused < 5000 || refused > 18000 {
		t.Error("refused:", refused)
	}
}

// Promises 20.2, 20.4: bytes of drawn messages with some bytes changed, taken out or put in: what is decoded is encoded as the bytes.
func TestDrawnBytes(t *testing.T) {
	draw := tools.Noise()
	many := map[api.Errno]int{}
	for range 20000 {
		b := []byte(encoded(t, drawnMessage(draw)))
		for range 1 + draw(3) {
			at := draw(len(b))
			switch draw(4) {
			case 0:
				b[at] = byte(draw(256))
			case 1:
				b[at] = byte(draw(6))
			case 2:
				b = slices.Insert(b, at, byte(draw(6)))
			case 3:
				b = slices.Delete(b, at, at+1)
			}
			if len(b) == 0 {
				break
			}
		}
		_, f := wantDecode(t, string(b))
		many[f.Code]++
	}
	if many[api.OK] < 1000 || many[api.ErrMessage] < 300 || many[api.ErrEnd] < 300 {
		t.Error(many)
	}
}

// Promise 20.4: no two messages have the same bytes, and no bytes are two messages: all small ones.
func TestOneForm(t *testing.T) {
	seen := map[string]string{}
	few := func(do func(n int)) {
		for n := range 3 {
			do(n)
		}
	}
	add := func(m api.Message) {
		t.Helper()
		b, e := wantEncode(t, m)
		if e != api.OK {
			return
		}
		if other, there := seen[b]; there {
			t.Fatalf("%v are %s and %s", []byte(b), other, told(m))
		}
		seen[b] = told(m)
	}
	few(func(x int) {
		few(func(y int) {
			few(func(z int) {
				add(api.Message{Kind: api.MJob, Epoch: x, Level: y, Cell: z})
				add(api.Message{Kind: api.MJob, Weights: make([]uint32, 1+x), Mats: slices.Repeat([]api.Matrix{{D: make([]api.Dist, z)}}, 1+y)})
				add(api.Message{Kind: api.MJob, Mats: []api.Matrix{{Level: x, Cell: y, Epoch: 1 + z}}})
				add(api.Message{Kind: api.MDone, Epoch: x, Level: y, Cell: z})
				add(api.Message{Kind: api.MDone, Cell: 3 + x, D: slices.Repeat([]api.Dist{api.Dist(y)}, 1+z)})
				add(api.Message{Kind: api.MPart, Query: x, Epoch: y, Vertex: z})
				add(api.Message{Kind: api.MPart, Other: 1 + x, Back: y, Weights: make([]uint32, z)})
				add(api.Message{Kind: api.MPiece, Query: x, Epoch: y, Back: z})
				add(api.Message{Kind: api.MPiece, Query: 3 + x, D: slices.Repeat([]api.Dist{api.Dist(y)}, 1+z)})
			})
		})
	})
	if len(seen) != 7*27+2*18 {
		t.Errorf("%d messages", len(seen))
	}
}

// roomy is a job whose lists have room behind them, in which other things stand.
func roomy() api.Message {
	m := full()[0]
	m.Weights = append(slices.Clone(m.Weights), 77, 78)[:len(m.Weights)]
	m.Mats = append(slices.Clone(m.Mats), api.Matrix{Level: -7, D: []api.Dist{77}})[:len(m.Mats)]
	for at := range m.Mats {
		m.Mats[at].D = append(slices.Clone(m.Mats[at].D), 77, 78)[:len(m.Mats[at].D)]
	}
	return m
}

// all tells of lists what lies behind their ends, too.
func all(m api.Message) string {
	m.Weights, m.Mats, m.D = m.Weights[:cap(m.Weights)], slices.Clone(m.Mats[:cap(m.Mats)]), m.D[:cap(m.D)]
	for at, x := range m.Mats {
		m.Mats[at].D = x.D[:cap(x.D)]
	}
	return told(m)
}

// Promises 20.1, 20.3, R4: what is handed in is not changed, and what lies behind a list's length is neither read nor written.
func TestArgumentsStay(t *testing.T) {
	m := roomy()
	ahead := all(m)
	if b, e := wantEncode(t, m); b != encoded(t, full()[0]) || e != api.OK {
		t.Errorf("%v, %v", []byte(b), e)
	}
	if all(m) != ahead {
		t.Errorf("Encode made of %s %s", ahead, all(m))
	}
	done := api.Message{Kind: api.MDone, D: m.Mats[0].D}
	back, _ := Matrix(done)
	x := Done(m.Mats[0])
	if encoded(t, x) != encoded(t, api.Message{Kind: api.MDone, Epoch: 7, Level: 5, Cell: 6, D: []api.Dist{0, 300, api.Inf}}) || len(back.D) != 3 || all(m) != ahead {
		t.Errorf("%s, %v; made of %s %s", told(x), back, ahead, all(m))
	}
}

// overwrite writes over all that an answer has, spare room too.
func overwrite(m api.Message) {
	for _, x := range m.Mats[:cap(m.Mats)] {
		overwrite(api.Message{D: x.D})
	}
	m.Weights, m.Mats, m.D = m.Weights[:cap(m.Weights)], m.Mats[:cap(m.Mats)], m.D[:cap(m.D)]
	for at := range m.Weights {
		m.Weights[at] = 99
	}
	for at := range m.Mats {
		m.Mats[at] = api.Matrix{Level: 99}
	}
	for at := range m.D {
		m.D[at] = 99
	}
}

// Promises 20.2, 20.3, R4: answers are new memory: what is done to one is seen in no argument, no other answer and no other list of the same one.
func TestAnswersAreNew(t *testing.T) {
	b := encoded(t, api.Message{Kind: api.MJob, Weights: []uint32{1, 2, 3}, Mats: []api.Matrix{{D: []api.Dist{1}}, {D: []api.Dist{1}}, {D: []api.Dist{4, 5, 6}}}})
	first, _ := Decode(b)
	second, _ := Decode(b)
	want := told(first)
	overwrite(api.Message{D: first.Mats[0].D})
	if first.Mats[1].D[0] != 1 || first.Mats[2].D[0] != 4 || first.Weights[0] != 1 {
		t.Errorf("one list of %s is another one", told(first))
	}
	overwrite(first)
	if third, _ := Decode(b); told(second) != want || told(third) != want {
		t.Errorf("%s, %s, want %s", told(second), told(third), want)
	}

	d := append(make([]api.Dist, 0, 9), 1, 2, 3)
	m := api.Matrix{Level: 1, D: d}
	done, other := Done(m), Done(m)
	back, _ := Matrix(done)
	again, _ := Matrix(done)
	overwrite(done)
	overwrite(api.Message{D: back.D})
	for _, l := range [][]api.Dist{d, other.D, again.D} {
		if !slices.Equal(l, []api.Dist{1, 2, 3}) {
			t.Error("shared:", l)
		}
	}
	if room := d[3:9]; slices.Max(room) != 0 {
		t.Error("the room behind the list:", room)
	}
}

// Promise 20.2, R4: bytes are not kept: their memory may become something else.
func TestBytesAreNotKept(t *testing.T) {
	for _, m := range full() {
		b := []byte(encoded(t, m))
		x, f := Decode(unsafe.String(unsafe.SliceData(b), len(b)))
		for at := range b {
			b[at] = '-'
		}
		if f != (api.Fault{}) || !same(x, m) {
			t.Errorf("%s, %v, want %s", told(x), f, told(m))
		}
	}
}

// R4: two answers share no bytes.
func TestBytesAreNew(t *testing.T) {
	for _, m := range full() {
		first, second := encoded(t, m), encoded(t, m)
		if first != second || unsafe.StringData(first) == unsafe.StringData(second) {
			t.Errorf("the bytes of %s: %v and %v, or the same memory", told(m), []byte(first), []byte(second))
		}
	}
}

// Promises 20.1 to 20.4, P1, W6: bytes that are made up.
func FuzzDecode(f *testing.F) {
	for _, m := range full() {
		b, _ := Encode(m)
		f.Add(b)
	}
	f.Add("\x01\x05")
	f.Add("\x03\x05\x01\x04\x01\x05\x01\x00\x01\x02\x03\x00")
	f.Fuzz(func(t *testing.T, b string) {
		wantDecode(t, b)
	})
}

// Promises 20.1 to 20.4, P1: messages that are made up, of numbers and of the members of their lists.
func FuzzEncode(f *testing.F) {
	f.Add(1, 1, 2, 3, 0, 0, 0, 0, []byte{1, 2}, []byte{2, 5, 6, 0}, []byte{})
	f.Add(2, 1, 2, 3, 0, 0, 0, 0, []byte{}, []byte{}, []byte{255, 3})
	f.Add(3, 1, 0, 0, 5, 7, 8, 1, []byte{9}, []byte{}, []byte{})
	f.Add(4, 1<<30, 0, 0, 5, 0, 0, 1, []byte{}, []byte{}, []byte{1})
	f.Fuzz(func(t *testing.T, kind, epoch, level, cell, query, vertex, other, back int, weights, mats, d []byte) {
		m := api.Message{Kind: kind, Epoch: epoch, Level: level, Cell: cell, Query: query, Vertex: vertex, Other: other, Back: back}
		for _, x := range weights {
			m.Weights = append(m.Weights, uint32(x)*0x1010101)
		}
		for _, x := range d {
			m.D = append(m.D, api.Dist(x)*0x101010101010101)
		}
		for ; len(mats) >= 4; mats = mats[4:] {
			m.Mats = append(m.Mats, api.Matrix{Level: int(int8(mats[0])), Cell: int(mats[1]) << 23, Epoch: int(int8(mats[2])), D: make([]api.Dist, mats[3])})
		}
		wantEncode(t, m)
		x, e := Matrix(m)
		if (e == api.OK) != (kind == 2) || e == api.OK && !same(Done(x), api.Message{Kind: 2, Epoch: epoch, Level: level, Cell: cell, D: m.D}) {
			t.Errorf("Matrix of the kind %d: %v, %v", kind, x, e)
		}
	})
}
