package dist

import (
	"math"
	"math/big"
	"regexp"
	"slices"
	"strings"
	"testing"

	"flyover/api"
)

// edges are distances at which a sum turns from a number to Inf, and ordinary ones.
func edges() []api.Dist {
	return []api.Dist{0, 1, 2, 3, 7, 1000, 1<<32 - 1, 1 << 32, 1 << 62, 1<<63 - 1, 1 << 63, 1<<63 + 1, api.Inf - 3, api.Inf - 2, api.Inf - 1, api.Inf}
}

// exact answers a number of any size as a distance.
func exact(n *big.Int) api.Dist {
	if n.Cmp(new(big.Int).SetUint64(uint64(api.Inf))) >= 0 {
		return api.Inf
	}
	return api.Dist(n.Uint64())
}

func great(d api.Dist) *big.Int { return new(big.Int).SetUint64(uint64(d)) }

// spare answers the list with room behind its length that is full of marks.
func spare(l ...api.Dist) []api.Dist {
	const mark = 77
	all := slices.Concat(l, []api.Dist{mark, mark, mark})
	return all[:len(l)]
}

// untouched tells whether the list and the room behind it are still as spare made them.
func untouched(l []api.Dist, was ...api.Dist) bool {
	return slices.Equal(l[:cap(l)][:len(was)+3], spare(was...)[:len(was)+3])
}

// Promise 1.1: Add.
func TestAdd(t *testing.T) {
	for _, c := range []struct{ a, b, want api.Dist }{
		{0, 0, 0},
		{2, 3, 5},
		{api.Inf - 1, 0, api.Inf - 1},
		{0, api.Inf - 1, api.Inf - 1},
		{api.Inf - 2, 1, api.Inf - 1},
		{api.Inf - 1, 1, api.Inf},
		{api.Inf - 2, 2, api.Inf},
		{api.Inf - 1, 2, api.Inf},
		{api.Inf - 1, api.Inf - 1, api.Inf},
		{1 << 63, 1<<63 - 2, api.Inf - 1},
		{1 << 63, 1<<63 - 1, api.Inf},
		{1 << 63, 1 << 63, api.Inf},
		{api.Inf, 0, api.Inf},
		{0, api.Inf, api.Inf},
		{api.Inf, 1, api.Inf},
		{1, api.Inf, api.Inf},
		{api.Inf, api.Inf, api.Inf},
	} {
		if d := Add(c.a, c.b); d != c.want {
			t.Errorf("Add(%d, %d) = %d, want %d", c.a, c.b, d, c.want)
		}
	}
}

// Promise 1.1: Add, against numbers that have no end.
func TestAddExact(t *testing.T) {
	for _, a := range edges() {
		for _, b := range edges() {
			want := exact(new(big.Int).Add(great(a), great(b)))
			if d := Add(a, b); d != want {
				t.Errorf("Add(%d, %d) = %d, want %d", a, b, d, want)
			}
		}
	}
}

// Promise 1.1: Sum.
func TestSum(t *testing.T) {
	for _, c := range []struct {
		l    []api.Dist
		want api.Dist
	}{
		{nil, 0},
		{[]api.Dist{}, 0},
		{[]api.Dist{9}, 9},
		{[]api.Dist{api.Inf}, api.Inf},
		{[]api.Dist{1, 2, 3}, 6},
		{[]api.Dist{api.Inf - 3, 1, 1}, api.Inf - 1},
		{[]api.Dist{api.Inf - 3, 1, 1, 1}, api.Inf},
		{[]api.Dist{api.Inf - 1, 1, 1}, api.Inf},
		{[]api.Dist{1 << 63, 1 << 63, 5}, api.Inf},
		{[]api.Dist{0, api.Inf, 0}, api.Inf},
	} {
		if d := Sum(c.l...); d != c.want {
			t.Errorf("Sum(%d) = %d, want %d", c.l, d, c.want)
		}
	}
	if d := Sum(); d != 0 {
		t.Errorf("Sum() = %d", d)
	}
}

// Promise 1.1: Sum has no error to answer, so it takes lists of any length.
func TestSumOfMany(t *testing.T) {
	l := make([]api.Dist, api.MaxItems+1)
	for i := range l {
		l[i] = 3
	}
	if d := Sum(l...); d != 3*(api.MaxItems+1) {
		t.Errorf("Sum of %d times 3 = %d", len(l), d)
	}
}

// Promise 1.1: Sums.
func TestSums(t *testing.T) {
	for _, c := range []struct{ l, want []api.Dist }{
		{nil, nil},
		{[]api.Dist{}, nil},
		{[]api.Dist{8}, []api.Dist{8}},
		{[]api.Dist{1, 2, api.Inf, 4}, []api.Dist{1, 3, api.Inf, api.Inf}},
		{[]api.Dist{api.Inf - 2, 1, 0, 1, 0}, []api.Dist{api.Inf - 2, api.Inf - 1, api.Inf - 1, api.Inf, api.Inf}},
		{[]api.Dist{1 << 63, 1 << 63, 1}, []api.Dist{1 << 63, api.Inf, api.Inf}},
		{[]api.Dist{0, 0, 5, 0}, []api.Dist{0, 0, 5, 5}},
	} {
		l, e := Sums(c.l)
		if e != api.OK || !slices.Equal(l, c.want) {
			t.Errorf("Sums(%d) = %d, %d, want %d", c.l, l, e, c.want)
		}
		for i := range l {
			if l[i] != Sum(c.l[:i+1]...) {
				t.Errorf("Sums(%d) at %d = %d, Sum says %d", c.l, i, l[i], Sum(c.l[:i+1]...))
			}
		}
	}
}

// Promise 1.1: Sums at the limit and one beyond it.
func TestSumsLimit(t *testing.T) {
	l := make([]api.Dist, api.MaxItems+1)
	for i := range l {
		l[i] = api.Dist(i)
	}
	sums, e := Sums(l[:api.MaxItems])
	if e != api.OK || len(sums) != api.MaxItems {
		t.Fatalf("Sums of MaxItems members: %d members, %d", len(sums), e)
	}
	for i, d := range sums {
		if d != api.Dist(i)*api.Dist(i+1)/2 {
			t.Fatalf("Sums at %d = %d", i, d)
		}
	}
	if sums, e := Sums(l); e != api.ErrLong || len(sums) != 0 {
		t.Errorf("Sums of MaxItems + 1 members: %d members, %d", len(sums), e)
	}
}

// Rule R4: an answer is new memory, what is handed in stays as it was, spare room too.
func TestSumsMemory(t *testing.T) {
	l := spare(1, 2, 3)
	first, _ := Sums(l)
	second, _ := Sums(l)
	for i := range first[:cap(first)] {
		first[:cap(first)][i] = 99
	}
	if !slices.Equal(second, []api.Dist{1, 3, 6}) {
		t.Error("two answers share memory", second)
	}
	Sum(l...)
	Least(l)
	if !untouched(l, 1, 2, 3) {
		t.Error("the argument was changed", l[:cap(l)])
	}
	again := spare(1, 2, 3)
	sums, _ := Sums(again)
	for i := range again[:cap(again)] {
		again[:cap(again)][i] = 99
	}
	if !slices.Equal(sums, []api.Dist{1, 3, 6}) {
		t.Error("the answer shares memory with the argument", sums)
	}
}

// Promise 1.2: Times.
func TestTimes(t *testing.T) {
	for _, c := range []struct {
		w    uint32
		n    int
		want api.Dist
	}{
		{7, 3, 21},
		{5, 0, 0},
		{0, 0, 0},
		{5, 1, 5},
		{0, 1 << 62, 0},
		{0, math.MaxInt, 0},
		{1, math.MaxInt, 1<<63 - 1},
		{2, math.MaxInt, 1<<64 - 2},
		{3, math.MaxInt, api.Inf},
		{2, 1 << 62, 1 << 63},
		{4, 1 << 62, api.Inf},
		{math.MaxUint32, math.MaxInt, api.Inf},
		{math.MaxUint32, 1, math.MaxUint32},
		{math.MaxUint32, 1 << 32, 1<<64 - 1<<32},
		{math.MaxUint32, 1<<32 + 1, api.Inf}, // just 2^64 - 1
		{math.MaxUint32, 1<<32 + 2, api.Inf},
		{math.MaxUint32, 1 << 33, api.Inf},
		{3, 6148914691236517204, api.Inf - 3},
		{3, 6148914691236517205, api.Inf}, // just 2^64 - 1
		{7, 2635249153387078802, api.Inf - 1},
		{7, 2635249153387078803, api.Inf},
	} {
		if d, e := Times(c.w, c.n); d != c.want || e != api.OK {
			t.Errorf("Times(%d, %d) = %d, %d, want %d", c.w, c.n, d, e, c.want)
		}
	}
}

// Promise 1.2: Times is w added one by one, and the product as far as that is no Inf.
func TestTimesExact(t *testing.T) {
	for _, w := range []uint32{0, 1, 2, 3, 1000, 1 << 31, math.MaxUint32} {
		var total api.Dist
		for n := range 300 {
			if d, e := Times(w, n); d != total || e != api.OK {
				t.Fatalf("Times(%d, %d) = %d, %d, want %d", w, n, d, e, total)
			}
			total = Add(total, api.Dist(w))
		}
		for shift := range 63 {
			for _, n := range []int{1<<shift - 1, 1 << shift, 1<<shift + 1, math.MaxInt - 1<<shift} {
				want := exact(new(big.Int).Mul(great(api.Dist(w)), big.NewInt(int64(n))))
				if d, e := Times(w, n); d != want || e != api.OK {
					t.Errorf("Times(%d, %d) = %d, %d, want %d", w, n, d, e, want)
				}
			}
		}
	}
}

// Promise 1.2: Times of an n below 0.
func TestTimesBelow(t *testing.T) {
	for _, w := range []uint32{0, 1, math.MaxUint32} {
		for _, n := range []int{-1, -2, -1 << 32, math.MinInt} {
			if d, e := Times(w, n); d != 0 || e != api.ErrRange {
				t.Errorf("Times(%d, %d) = %d, %d", w, n, d, e)
			}
		}
	}
}

// Promise 1.3: Least.
func TestLeast(t *testing.T) {
	for _, c := range []struct {
		l    []api.Dist
		at   int
		want api.Dist
	}{
		{[]api.Dist{4, 2, 2}, 1, 2},
		{[]api.Dist{9}, 0, 9},
		{[]api.Dist{0}, 0, 0},
		{[]api.Dist{api.Inf}, 0, api.Inf},
		{[]api.Dist{api.Inf, api.Inf}, 0, api.Inf},
		{[]api.Dist{api.Inf, api.Inf - 1}, 1, api.Inf - 1},
		{[]api.Dist{1, 2, 3}, 0, 1},
		{[]api.Dist{3, 2, 1}, 2, 1},
		{[]api.Dist{3, 0, 1, 0}, 1, 0},
		{[]api.Dist{1 << 63, 1<<63 - 1}, 1, 1<<63 - 1},
	} {
		if at, d, e := Least(c.l); at != c.at || d != c.want || e != api.OK {
			t.Errorf("Least(%d) = %d, %d, %d, want %d, %d", c.l, at, d, e, c.at, c.want)
		}
	}
}

// Promise 1.3: Least of no member, at the limit and one beyond it.
func TestLeastLimit(t *testing.T) {
	for _, l := range [][]api.Dist{nil, {}, spare()} {
		if at, d, e := Least(l); at != 0 || d != 0 || e != api.ErrNone {
			t.Errorf("Least of no member = %d, %d, %d", at, d, e)
		}
	}
	l := make([]api.Dist, api.MaxItems+1)
	for i := range l {
		l[i] = api.Dist(len(l) - i)
	}
	if at, d, e := Least(l[:api.MaxItems]); at != api.MaxItems-1 || d != 2 || e != api.OK {
		t.Errorf("Least of MaxItems members = %d, %d, %d", at, d, e)
	}
	if at, d, e := Least(l); at != 0 || d != 0 || e != api.ErrLong {
		t.Errorf("Least of MaxItems + 1 members = %d, %d, %d", at, d, e)
	}
}

// Promise 1.4: Text, and Parse of what it writes.
func TestText(t *testing.T) {
	for _, c := range []struct {
		d api.Dist
		s string
	}{
		{0, "0"},
		{7, "7"},
		{10, "10"},
		{12, "12"},
		{1 << 63, "9223372036854775808"},
		{api.Inf - 1, "18446744073709551614"},
		{api.Inf, "inf"},
	} {
		if s := Text(c.d); s != c.s {
			t.Errorf("Text(%d) = %q, want %q", uint64(c.d), s, c.s)
		}
		if d, f := Parse(c.s); d != c.d || f != (api.Fault{}) {
			t.Errorf("Parse(%q) = %d, %v, want %d", c.s, d, f, c.d)
		}
	}
}

// strangeTexts are no distances.
func strangeTexts() []string {
	return []string{
		"", " ", "00", "007", "00000000000000000000001", "+5", "+0", "-0", "-1", "--1", "1 ", " 1", "1\n", "1_000", "1,000", "1.0", "1e3", "0x10", "0b1", "a", "12a", "a12",
		"Inf", "INF", "+inf", "-inf", "inf ", " inf", "in", "infinity", "inf0", "0inf", "nan", "18446744073709551615", "18446744073709551616", "18446744073709551620",
		"99999999999999999999", "184467440737095516140", "018446744073709551614", "36893488147419103232", "\x00", "1\x00", "\xff", "1\xff", "\u0661", "\uff11",
		strings.Repeat("9", 1000), strings.Repeat("0", api.MaxBytes), strings.Repeat("9", api.MaxBytes), strings.Repeat("0", api.MaxBytes-1) + "1", "inf" + strings.Repeat(" ", api.MaxBytes-3),
	}
}

// Promise 1.4: Parse of texts that are no distance.
func TestParseRefuses(t *testing.T) {
	for _, s := range strangeTexts() {
		if d, f := Parse(s); d != 0 || f != (api.Fault{At: 0, Code: api.ErrDist}) {
			t.Errorf("Parse of %q (%d bytes) = %d, %v", s[:min(len(s), 30)], len(s), d, f)
		}
	}
}

// Promise 1.4: Parse of texts that are too long, whatever stands in them.
func TestParseLong(t *testing.T) {
	for _, s := range []string{"0", "9", "x", "\xff"} {
		for _, many := range []int{api.MaxBytes + 1, 2 * api.MaxBytes} {
			if d, f := Parse(strings.Repeat(s, many)); d != 0 || f != (api.Fault{At: 0, Code: api.ErrLong}) {
				t.Errorf("Parse of %d times %q = %d, %v", many, s, d, f)
			}
		}
	}
}

// Promise 1.5: it does not matter in which order is added.
func TestOrder(t *testing.T) {
	for _, a := range edges() {
		for _, b := range edges() {
			if Add(a, b) != Add(b, a) {
				t.Errorf("Add(%d, %d) = %d, turned about %d", a, b, Add(a, b), Add(b, a))
			}
			for _, c := range edges() {
				want := Sum(a, b, c)
				if Add(a, Add(b, c)) != want || Sum(a, c, b) != want || Sum(b, a, c) != want || Sum(b, c, a) != want || Sum(c, a, b) != want || Sum(c, b, a) != want {
					t.Errorf("the sum of %d, %d, %d hangs on the order", a, b, c)
				}
			}
		}
	}
}

// Promise 1.5: what is added makes nothing less, and Inf stays Inf.
func TestNothingLess(t *testing.T) {
	for _, a := range edges() {
		if Add(a, api.Inf) != api.Inf || Add(api.Inf, a) != api.Inf || Sum(a, api.Inf, a) != api.Inf {
			t.Errorf("Inf and %d is not Inf", a)
		}
		for _, b := range edges() {
			if d := Add(a, b); d < a || d < b {
				t.Errorf("Add(%d, %d) = %d is less", a, b, d)
			}
		}
	}
	sums, e := Sums(edges())
	if e != api.OK || !slices.IsSorted(sums) || sums[len(sums)-1] != api.Inf {
		t.Error("Sums of the edges", sums, e)
	}
	for _, w := range []uint32{1, 3, math.MaxUint32} {
		var last api.Dist
		for shift := range 63 {
			d, _ := Times(w, 1<<shift)
			if d < last {
				t.Errorf("Times(%d, 1 << %d) = %d is less than %d", w, shift, d, last)
			}
			last = d
		}
	}
}

// Promise 1.6: Parse of Text leads back.
func TestThereAndBack(t *testing.T) {
	l := edges()
	for ten := api.Dist(1); ten < 1e19; ten *= 10 {
		l = append(l, ten-1, ten, ten+1)
	}
	for d := range api.Dist(2000) {
		l = append(l, d, api.Inf-d, 1<<32-d, 1<<63-d)
	}
	for _, d := range l {
		if back, f := Parse(Text(d)); back != d || f != (api.Fault{}) {
			t.Errorf("Parse(Text(%d)) = %d, %v", uint64(d), back, f)
		}
	}
}

// readable tells by other means than Parse's whether a text is a distance.
func readable(s string) bool {
	if s == "inf" {
		return true
	}
	if !regexp.MustCompile(`^(0|[1-9][0-9]*)\z`).MatchString(s) {
		return false
	}
	n, ok := new(big.Int).SetString(s, 10)
	return ok && n.Cmp(great(api.Inf)) < 0
}

// checkParse holds the promises 1.4 and 1.6 against any text.
func checkParse(t *testing.T, s string) {
	d, f := Parse(s)
	switch {
	case len(s) > api.MaxBytes:
		if d != 0 || f != (api.Fault{Code: api.ErrLong}) {
			t.Errorf("Parse of %d bytes = %d, %v", len(s), d, f)
		}
	case !readable(s):
		if d != 0 || f != (api.Fault{Code: api.ErrDist}) {
			t.Errorf("Parse(%q) = %d, %v", s, d, f)
		}
	case f != (api.Fault{}) || Text(d) != s:
		t.Errorf("Parse(%q) = %d, %v, whose Text is %q", s, d, f, Text(d))
	}
}

// Promise 1.6: Text of what Parse reads is the text; of all short texts of a few bytes.
func TestTextOfParse(t *testing.T) {
	const letters = "019 +-infI_x."
	texts := []string{""}
	for at := 0; len(texts[at]) < 4; at++ {
		for _, c := range letters {
			texts = append(texts, texts[at]+string(c))
		}
	}
	for _, s := range texts {
		checkParse(t, s)
	}
	for tail := range 100 {
		checkParse(t, "184467440737095515"+string(rune('0'+tail/10))+string(rune('0'+tail%10)))
		checkParse(t, "184467440737095516"+string(rune('0'+tail/10))+string(rune('0'+tail%10)))
	}
}

// Promises 1.4, 1.6 and P1: no text makes Parse panic or read what Text would not write.
func FuzzParse(f *testing.F) {
	for _, s := range strangeTexts() {
		f.Add(s)
	}
	for _, d := range edges() {
		f.Add(Text(d))
	}
	f.Fuzz(checkParse)
}

// Promise P1: every call ends without a panic at the greatest and the least of what it may be given.
func TestEnds(t *testing.T) {
	many := make([]api.Dist, 1<<20)
	Sum(many...)
	for _, l := range [][]api.Dist{nil, {}, many, many[:1]} {
		Sums(l)
		Least(l)
	}
	for _, d := range edges() {
		Text(d)
		Add(d, d)
	}
	for _, n := range []int{math.MinInt, -1, 0, 1, math.MaxInt} {
		Times(0, n)
		Times(math.MaxUint32, n)
	}
	Parse(strings.Repeat("1", 1<<22))
}

// Rule R7: the same call tells the same.
func TestSame(t *testing.T) {
	l := []api.Dist{5, 3, 3, api.Inf}
	first, _ := Sums(l)
	for range 3 {
		again, e := Sums(l)
		at, d, e2 := Least(l)
		if e != api.OK || e2 != api.OK || !slices.Equal(first, again) || at != 1 || d != 3 {
			t.Error("a later call tells otherwise", again, at, d)
		}
	}
}
