package mess

import (
	"encoding/binary"
	"math"
	"slices"
	"strconv"
	"strings"
	"testing"

	"flyover/api"
	"flyover/code"
)

// plainEncode is a second reading of the chapter, with the library's groups of seven bits.
func plainEncode(m api.Message) (string, api.Errno) {
	if len(m.Weights) > 16384 || len(m.Mats) > 16384 || len(m.D) > 16384 {
		return "", api.ErrLong
	}
	for _, x := range m.Mats {
		if len(x.D) > 16384 {
			return "", api.ErrLong
		}
	}
	if !plainMayBe(m) {
		return "", api.ErrMessage
	}
	b := plainBytes(m)
	if len(b) > 262144 {
		return "", api.ErrLong
	}
	return b, api.OK
}

// plainMayBe takes away what the kind has, as long as it is right: nothing may be left.
func plainMayBe(m api.Message) bool {
	tick := func(n *int) {
		if *n >= 0 && *n <= 1073741824 {
			*n = 0
		}
	}
	rest := m
	tick(&rest.Epoch)
	if m.Kind == 1 || m.Kind == 2 {
		tick(&rest.Level)
		tick(&rest.Cell)
	}
	if m.Kind == 3 || m.Kind == 4 {
		tick(&rest.Query)
		if m.Back == 1 {
			rest.Back = 0
		}
	}
	switch m.Kind {
	case 1:
		rest.Weights, rest.Mats = nil, nil
		for _, x := range m.Mats {
			for _, n := range []int{x.Level, x.Cell, x.Epoch} {
				if n < 0 || n > 1073741824 {
					return false
				}
			}
		}
	case 3:
		rest.Weights = nil
		tick(&rest.Vertex)
		tick(&rest.Other)
	case 2, 4:
		rest.D = nil
	default:
		return false
	}
	numbers := []int{rest.Epoch, rest.Level, rest.Cell, rest.Query, rest.Vertex, rest.Other, rest.Back, len(rest.Weights), len(rest.Mats), len(rest.D)}
	return !slices.ContainsFunc(numbers, func(n int) bool { return n != 0 })
}

// writer puts items one behind the other.
type writer struct{ b []byte }

func (w *writer) numbers(l ...int) {
	for _, n := range l {
		w.b = binary.AppendUvarint(append(w.b, 1), uint64(n))
	}
}

func (w *writer) list(many int) { w.b = binary.AppendUvarint(append(w.b, 3), uint64(many)) }

func (w *writer) weights(l []uint32) {
	w.list(len(l))
	for _, n := range l {
		w.numbers(int(n))
	}
}

func (w *writer) dists(l []api.Dist) {
	w.list(len(l))
	for _, d := range l {
		w.b = binary.AppendUvarint(append(w.b, 1), uint64(d))
	}
}

func (w *writer) mats(l []api.Matrix) {
	w.list(len(l))
	for _, m := range l {
		w.list(4)
		w.numbers(m.Level, m.Cell, m.Epoch)
		w.dists(m.D)
	}
}

func plainBytes(m api.Message) string {
	var w writer
	switch m.Kind {
	case 1:
		w.list(6)
		w.numbers(1, m.Epoch, m.Level, m.Cell)
		w.weights(m.Weights)
		w.mats(m.Mats)
	case 2:
		w.list(5)
		w.numbers(2, m.Epoch, m.Level, m.Cell)
		w.dists(m.D)
	case 3:
		w.list(7)
		w.numbers(3, m.Query, m.Epoch, m.Vertex, m.Other, m.Back)
		w.weights(m.Weights)
	case 4:
		w.list(5)
		w.numbers(4, m.Query, m.Epoch, m.Back)
		w.dists(m.D)
	}
	return string(w.b)
}

// plainDecode takes numbers out of the bytes where a message would have them, whatever else stands there: bytes that are that message's are what it comes to when it is written.
func plainDecode(b string) (api.Message, api.Fault) {
	if _, f := code.Decode(b); f.Code != api.OK {
		return api.Message{}, f
	}
	m := taken(&taker{b: b})
	if again, e := plainEncode(m); e != api.OK || again != b {
		return api.Message{}, api.Fault{At: 0, Code: api.ErrMessage}
	}
	return m, api.Fault{}
}

// taker takes numbers from the front of the bytes; behind the end there are zeros.
type taker struct{ b string }

func (t *taker) number() uint64 {
	t.b = t.b[min(1, len(t.b)):]
	n, size := binary.Uvarint([]byte(t.b[:min(10, len(t.b))]))
	t.b = t.b[max(0, size):]
	return n
}

// tick is below 0, if it is too great.
func (t *taker) tick() int { return int(min(t.number(), math.MaxInt)) }

func (t *taker) many() uint64 { return min(t.number(), uint64(len(t.b))) }

func (t *taker) dists() (l []api.Dist) {
	for range t.many() {
		l = append(l, api.Dist(t.number()))
	}
	return l
}

func (t *taker) weights() (l []uint32) {
	for range t.many() {
		l = append(l, uint32(t.number()))
	}
	return l
}

func (t *taker) mats() (l []api.Matrix) {
	for range t.many() {
		t.number()
		l = append(l, api.Matrix{Level: t.tick(), Cell: t.tick(), Epoch: t.tick(), D: t.dists()})
	}
	return l
}

func taken(t *taker) api.Message {
	t.number()
	m := api.Message{Kind: t.tick()}
	switch m.Kind {
	case 1:
		m.Epoch, m.Level, m.Cell, m.Weights, m.Mats = t.tick(), t.tick(), t.tick(), t.weights(), t.mats()
	case 2:
		m.Epoch, m.Level, m.Cell, m.D = t.tick(), t.tick(), t.tick(), t.dists()
	case 3:
		m.Query, m.Epoch, m.Vertex, m.Other, m.Back, m.Weights = t.tick(), t.tick(), t.tick(), t.tick(), t.tick(), t.weights()
	case 4:
		m.Query, m.Epoch, m.Back, m.D = t.tick(), t.tick(), t.tick(), t.dists()
	}
	return m
}

// told is all of a message but what lies behind its lists.
func told(m api.Message) string {
	var b strings.Builder
	ints := func(l ...int) {
		for _, n := range l {
			b.WriteString(strconv.Itoa(n) + " ")
		}
	}
	dists := func(l []api.Dist) {
		ints(len(l))
		for _, d := range l {
			b.WriteString(strconv.FormatUint(uint64(d), 10) + " ")
		}
	}
	ints(m.Kind, m.Epoch, m.Level, m.Cell, m.Query, m.Vertex, m.Other, m.Back, len(m.Weights))
	for _, w := range m.Weights {
		ints(int(w))
	}
	ints(len(m.Mats))
	for _, x := range m.Mats {
		ints(x.Level, x.Cell, x.Epoch)
		dists(x.D)
	}
	dists(m.D)
	return b.String()
}

func same(x, y api.Message) bool { return told(x) == told(y) }

// brief is the beginning of what might be long.
func brief(s string) string { return s[:min(200, len(s))] }

func bytesOf(b string) []byte { return []byte(b[:min(60, len(b))]) }

// wantEncode holds Encode against the second reading, and what it wrote against Decode; it tells what was answered.
func wantEncode(t *testing.T, m api.Message) (string, api.Errno) {
	t.Helper()
	b, e := Encode(m)
	if want, e2 := plainEncode(m); b != want || e != e2 {
		t.Fatalf("Encode of %s: %d bytes %v, %v, want %d bytes %v, %v", brief(told(m)), len(b), bytesOf(b), e, len(want), bytesOf(want), e2)
	}
	if e == api.OK {
		if x, f := Decode(b); f != (api.Fault{}) || !same(x, m) {
			t.Fatalf("%s became %s, %v", brief(told(m)), brief(told(x)), f)
		}
	}
	return b, e
}

// wantDecode holds Decode against the second reading, and what it read against Encode.
func wantDecode(t *testing.T, b string) (api.Message, api.Fault) {
	t.Helper()
	m, f := Decode(b)
	if want, f2 := plainDecode(b); !same(m, want) || f != f2 {
		t.Fatalf("Decode of %d bytes %v: %s, %v, want %s, %v", len(b), bytesOf(b), brief(told(m)), f, brief(told(want)), f2)
	}
	if f == (api.Fault{}) {
		if again, e := Encode(m); again != b || e != api.OK {
			t.Fatalf("%d bytes %v became %d bytes %v, %v", len(b), bytesOf(b), len(again), bytesOf(again), e)
		}
	}
	return m, f
}
