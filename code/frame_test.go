package code

import (
	"encoding/binary"
	"hash/crc32"
	"math"
	"slices"
	"strings"
	"testing"

	"flyover/api"
)

// slowFrame is the library's frame.
func slowFrame(b string) string {
	head := binary.LittleEndian.AppendUint32(nil, uint32(len(b)))
	return string(binary.LittleEndian.AppendUint32(head, crc32.ChecksumIEEE([]byte(b)))) + b
}

// head answers eight bytes: a number and a sum.
func head(size, sum uint32) string {
	return string(binary.LittleEndian.AppendUint32(binary.LittleEndian.AppendUint32(nil, size), sum))
}

// noise answers bytes of each value that look like no pattern.
func noise(size int) string {
	b := make([]byte, size)
	state := uint32(1)
	for i := range b {
		state = state*1664525 + 1013904223
		b[i] = byte(state >> 24)
	}
	return string(b)
}

// someBodies are bytes that are put into frames: none, few, many, some that look like a frame.
func someBodies() []string {
	return []string{"", "a", "\x00", "\xff", "abc", "123456789", "\x00\x00\x00\x00\x00\x00\x00\x00", slowFrame("abc"), noise(255), noise(256), noise(70000)}
}

func wantBody(t *testing.T, b string, at int, body string, end int) {
	t.Helper()
	if got, to, f := Unframe(b, at); got != body || to != end || f != (api.Fault{}) {
		t.Errorf("Unframe of %v, %d: %d bytes, %d, %v, want %d bytes, %d", brief(b), at, len(got), to, f, len(body), end)
	}
}

func wantNoBody(t *testing.T, b string, at int, want api.Fault) {
	t.Helper()
	if got, end, f := Unframe(b, at); f != want || got != "" || end != 0 {
		t.Errorf("Unframe of %v, %d: %d bytes, %d, %v, want %v", brief(b), at, len(got), end, f, want)
	}
}

func wantBodies(t *testing.T, b string, bodies []string, end int) {
	t.Helper()
	if got, to := Frames(b); !slices.Equal(got, bodies) || to != end {
		t.Errorf("Frames of %v: %d bodies, %d, want %d, %d", brief(b), len(got), to, len(bodies), end)
	}
}

// Promise 2.3: Crc.
func TestCrc(t *testing.T) {
	for b, want := range map[string]uint32{
		"":                 0,
		"123456789":        0xcbf43926,
		"a":                0xe8b7be43,
		"abc":              0x352441c2,
		"\x00":             0xd202ef8d,
		"\x00\x00\x00\x00": 0x2144df1c,
		"\xff\xff\xff\xff": 0xffffffff,
		"message digest":   0x20159d7f,
	} {
		if got := Crc(b); got != want {
			t.Errorf("Crc(%q) = %#x, want %#x", b, got, want)
		}
	}
}

// Promise 2.3: Crc of each byte, of pairs of bytes and of all lengths, against the library's.
func TestCrcExact(t *testing.T) {
	same := func(b string) {
		t.Helper()
		if got, want := Crc(b), crc32.ChecksumIEEE([]byte(b)); got != want {
			t.Fatalf("Crc of %v = %#x, want %#x", brief(b), got, want)
		}
	}
	for first := range 256 {
		same(written(byte(first)))
		for second := range 256 {
			same(written(byte(first), byte(second)))
		}
	}
	long := noise(api.MaxBytes + 3)
	for size := range 600 {
		same(long[size : 2*size])
	}
	for _, size := range []int{api.MaxBytes - 1, api.MaxBytes, api.MaxBytes + 1, api.MaxBytes + 3} {
		same(long[:size])
	}
	same(strings.Repeat(long, 9))
}

// Promise 2.3: Frame.
func TestFrame(t *testing.T) {
	for _, body := range someBodies() {
		if got, e := Frame(body); e != api.OK || got != slowFrame(body) {
			t.Errorf("Frame of %v: %v, %v", brief(body), e, brief(got))
		}
	}
	if got, e := Frame(""); e != api.OK || got != "\x00\x00\x00\x00\x00\x00\x00\x00" {
		t.Errorf("Frame of nothing: %v, %v", e, []byte(got))
	}
	if got, e := Frame("123456789"); e != api.OK || got != "\x09\x00\x00\x00\x26\x39\xf4\xcb123456789" {
		t.Errorf("Frame of 123456789: %v, %v", e, []byte(got))
	}
}

// Promise 2.3: Frame and Unframe of as many bytes as may be, and one more.
func TestFrameLong(t *testing.T) {
	full := noise(api.MaxBytes)
	b, e := Frame(full)
	if e != api.OK || b != slowFrame(full) {
		t.Fatalf("Frame of MaxBytes bytes: %v, %d bytes", e, len(b))
	}
	wantBody(t, b, 0, full, len(b))
	wantBody(t, "abc"+b+"z", 3, full, 3+len(b))
	wantBodies(t, b+b, []string{full, full}, 2*len(b))

	for _, size := range []int{api.MaxBytes + 1, 2 * api.MaxBytes, 100 * api.MaxBytes} {
		if got, e := Frame(strings.Repeat("x", size)); e != api.ErrLong || got != "" {
			t.Errorf("Frame of %d bytes: %v, %d bytes", size, e, len(got))
		}
	}
	wantNoBody(t, slowFrame(full+"x"), 0, api.Fault{Code: api.ErrLong})
	wantNoBody(t, "abc"+slowFrame(full+"x"), 3, api.Fault{At: 3, Code: api.ErrLong})
	wantBodies(t, b+slowFrame(full+"x")+b, []string{full}, len(b))
}

// Promise 2.3: Unframe of a frame at any place, with anything behind it (2.5).
func TestUnframe(t *testing.T) {
	for _, body := range someBodies() {
		frame := slowFrame(body)
		for _, ahead := range []string{"", "z", "\x00\x00\x00\x00\x00\x00\x00", frame} {
			for _, after := range []string{"", "z", "\xff", "\x00\x00\x00\x00\x00\x00\x00\x00", frame, noise(40)} {
				wantBody(t, ahead+frame+after, len(ahead), body, len(ahead)+len(frame))
			}
		}
	}
}

// Promise 2.3: a place that there is not.
func TestUnframeRange(t *testing.T) {
	for _, b := range []string{"", "z", slowFrame(""), slowFrame("abc"), noise(100)} {
		for _, at := range []int{-1, -2, -8, math.MinInt, math.MinInt + 1, len(b) + 1, len(b) + 2, len(b) + 8, math.MaxInt, math.MaxInt - 8} {
			wantNoBody(t, b, at, api.Fault{Code: api.ErrRange})
		}
		wantNoBody(t, b, len(b), api.Fault{At: len(b), Code: api.ErrEnd})
	}
}

// Promise 2.3: frames that end early, at each place.
func TestUnframeCut(t *testing.T) {
	for _, body := range []string{"", "a", "abc", noise(50)} {
		frame := slowFrame(body)
		for size := range len(frame) {
			wantNoBody(t, frame[:size], 0, api.Fault{Code: api.ErrEnd})
			wantNoBody(t, "xyz"+frame[:size], 3, api.Fault{At: 3, Code: api.ErrEnd})
			wantNoBody(t, frame+frame[:size], len(frame), api.Fault{At: len(frame), Code: api.ErrEnd})
		}
	}
}

// Promise 2.3: where several things are wrong, a head that lacks bytes is told first, then a number that is too great, then bytes that lack, then the sum.
func TestUnframeFirstWrong(t *testing.T) {
	for _, c := range []struct {
		b  string
		at int
		e  api.Errno
	}{
		{"\xff\xff\xff\xff\x00\x00\x00", 0, api.ErrEnd},
		{"z\xff\xff\xff\xff\x00\x00\x00", 1, api.ErrEnd},
		{head(api.MaxBytes+1, 0), 0, api.ErrLong},
		{head(api.MaxBytes+1, 5) + "abc", 0, api.ErrLong},
		{head(math.MaxUint32, 0), 0, api.ErrLong},
		{head(1<<31, 0) + noise(20), 0, api.ErrLong},
		{head(1<<31-1, 0), 0, api.ErrLong},
		{head(api.MaxBytes+1, 5) + noise(api.MaxBytes+1), 0, api.ErrLong},
		{"zz" + head(api.MaxBytes+1, 0), 2, api.ErrLong},
		{head(api.MaxBytes, 0), 0, api.ErrEnd},
		{head(api.MaxBytes, 0) + noise(api.MaxBytes-1), 0, api.ErrEnd},
		{head(api.MaxBytes, 0) + noise(api.MaxBytes), 0, api.ErrSum},
		{head(4, 5) + "abc", 0, api.ErrEnd},
		{head(3, 5) + "abc", 0, api.ErrSum},
		{head(0, 1), 0, api.ErrSum},
		{head(0, 1) + "abc", 0, api.ErrSum},
		{"zz" + head(3, 5) + "abc", 2, api.ErrSum},
	} {
		wantNoBody(t, c.b, c.at, api.Fault{At: c.at, Code: c.e})
	}
}

// Promise 2.3: Frames.
func TestFrames(t *testing.T) {
	wantBodies(t, "", nil, 0)
	all, b := []string(nil), ""
	for _, body := range someBodies() {
		all, b = append(all, body), b+slowFrame(body)
		wantBodies(t, b, all, len(b))
		for _, after := range []string{"x", "\x00\x00\x00\x00\x00\x00\x00", head(0, 1), head(3, 5) + "abc", head(math.MaxUint32, 0), slowFrame("abc")[:10]} {
			wantBodies(t, b+after, all, len(b))
			wantBodies(t, b+after+slowFrame("abc"), all, len(b))
		}
	}
	wantBodies(t, "x"+slowFrame("abc"), nil, 0)
	wantBodies(t, strings.Repeat("\x00", 8*5+7), []string{"", "", "", "", ""}, 40)
}

// Promise 2.3: Frames of more bytes than MaxBytes, and of more than MaxItems frames.
func TestFramesMany(t *testing.T) {
	frame := slowFrame(noise(12))
	bodies, end := Frames(strings.Repeat(frame, 3*api.MaxItems) + "x")
	if len(bodies) != 3*api.MaxItems || end != 3*api.MaxItems*len(frame) {
		t.Errorf("%d bodies, %d", len(bodies), end)
	}
	long := strings.Repeat("z", 2*api.MaxBytes)
	wantBody(t, long+frame+long, len(long), noise(12), len(long)+len(frame))
}

// Promise 2.3: three frames that are cut at each place: those ahead of the cut are there.
func TestFramesCut(t *testing.T) {
	bodies := []string{"abc", "", noise(20)}
	b := ""
	ends := []int{0}
	for _, body := range bodies {
		b += slowFrame(body)
		ends = append(ends, len(b))
	}
	for size := range len(b) + 1 {
		whole := 0
		for whole+1 < len(ends) && ends[whole+1] <= size {
			whole++
		}
		wantBodies(t, b[:size], bodies[:whole], ends[whole])
	}
}

// Promise 2.5: a frame in which one byte is another one, behind its length, is none.
func TestOneByteOtherInFrame(t *testing.T) {
	for _, body := range []string{"", "a", "abc", "\x00\x00\x00\x00", noise(60)} {
		frame := slowFrame(body)
		for i := 4; i < len(frame); i++ {
			for other := range 256 {
				if byte(other) == frame[i] {
					continue
				}
				b := frame[:i] + written(byte(other)) + frame[i+1:]
				wantNoBody(t, b, 0, api.Fault{Code: api.ErrSum})
				wantNoBody(t, "z"+b+frame, 1, api.Fault{At: 1, Code: api.ErrSum})
				wantBodies(t, frame+b+frame, []string{body}, len(frame))
			}
		}
	}
}

// Promise 2.5: also in a frame of as many bytes as may be.
func TestOneByteOtherInLongFrame(t *testing.T) {
	frame := slowFrame(noise(api.MaxBytes))
	for i := 4; i < len(frame); i += 16383 {
		b := frame[:i] + written(frame[i]^64) + frame[i+1:]
		wantNoBody(t, b, 0, api.Fault{Code: api.ErrSum})
	}
}

// R4: what Unframe and Frames answer shares no memory with their argument or with another answer; so does Frame.
func TestFramesAnswerNewMemory(t *testing.T) {
	body := noise(30)
	frame, _ := Frame(body)
	b := frame + frame
	first, _, _ := Unframe(b, 0)
	second, _, _ := Unframe(b, 0)
	bodies, _ := Frames(b)
	others, _ := Frames(b)
	texts := slices.Concat([]string{body, frame, b, first, second}, bodies, others)
	for i := range texts {
		for j := range i {
			if !apart(texts[i], texts[j]) {
				t.Errorf("the texts %d and %d share memory", i, j)
			}
		}
	}
	_ = append(bodies[:1], "other")
	wantBodies(t, b, []string{body, body}, len(b))
	if !slices.Equal(others, []string{body, body}) {
		t.Error("two answers share a list")
	}
}

// Promises 2.3, 2.5, R7, P1: bytes that are made up, at any place.
func FuzzUnframe(f *testing.F) {
	for _, body := range someBodies() {
		f.Add([]byte(slowFrame(body)), 0)
		f.Add([]byte("z"+slowFrame(body)+"z"), 1)
	}
	f.Add([]byte{}, -1)
	f.Fuzz(func(t *testing.T, bytes []byte, at int) {
		b := string(bytes)
		body, end, fault := Unframe(b, at)
		if fault.Code == api.OK && (at < 0 || end > len(b) || b[at:end] != slowFrame(body)) {
			t.Errorf("Unframe of %v, %d: no frame of %d bytes", brief(b), at, len(body))
		}
		if fault.Code != api.OK && (body != "" || end != 0) {
			t.Errorf("Unframe of %v, %d: an answer beside %v", brief(b), at, fault)
		}
		bodies, end := Frames(b)
		all := ""
		for _, body := range bodies {
			all += slowFrame(body)
		}
		if b[:end] != all {
			t.Errorf("Frames of %v: they are not what stands there", brief(b))
		}
		if _, _, fault := Unframe(b, end); fault.Code == api.OK {
			t.Errorf("Frames of %v: one more stands at %d", brief(b), end)
		}
	})
}
