package code

import (
	"strings"

	"flyover/api"
)

// A frame's head: the number of its bytes, and their sum.
const (
	wordBytes = 4
	headBytes = 2 * wordBytes
)

// halves holds what four bits do to a sum. A table for whole bytes would be longer than one that may stand here.
var halves = [16]uint32{
	0x00000000, 0x1db71064, 0x3b6e20c8, 0x26d930ac, 0x76dc4190, 0x6b6b51f4, 0x4db26158, 0x5005713c,
	0xedb88320, 0xf00f9344, 0xd6d6a3e8, 0xcb61b38c, 0x9b64c2b0, 0x86d3d2d4, 0xa00ae278, 0xbdbdf21c,
}

func Crc(b string) uint32 {
	sum := ^uint32(0)
	for i := range len(b) {
		sum ^= uint32(b[i])
		sum = sum>>4 ^ halves[sum%16]
		sum = sum>>4 ^ halves[sum%16]
	}
	return ^sum
}

func Frame(b string) (string, api.Errno) {
	if len(b) > api.MaxBytes {
		return "", api.ErrLong
	}
	head := appendWord(nil, uint32(len(b)))
	head = appendWord(head, Crc(b))
	return string(head) + b, api.OK
}

func appendWord(b []byte, w uint32) []byte {
	return append(b, byte(w), byte(w>>8), byte(w>>16), byte(w>>24))
}

func word(b string) uint32 {
	return uint32(b[0]) | uint32(b[1])<<8 | uint32(b[2])<<16 | uint32(b[3])<<24
}

// Unframe answers a copy of the body, since a piece of the bytes would keep all of them.
func Unframe(b string, at int) (body string, end int, f api.Fault) {
	if at < 0 || at > len(b) {
		return "", 0, fault(0, api.ErrRange)
	}
	body, e := firstBody(b[at:])
	if e != api.OK {
		return "", 0, fault(at, e)
	}
	return strings.Clone(body), at + headBytes + len(body), api.Fault{}
}

func firstBody(b string) (string, api.Errno) {
	if len(b) < headBytes {
		return "", api.ErrEnd
	}
	size, sum, rest := word(b), word(b[wordBytes:]), b[headBytes:]
	if size > api.MaxBytes {
		return "", api.ErrLong
	}
	if int(size) > len(rest) {
		return "", api.ErrEnd
	}
	body := rest[:size]
	if Crc(body) != sum {
		return "", api.ErrSum
	}
	return body, api.OK
}

func Frames(b string) (bodies []string, end int) {
	for {
		body, next, f := Unframe(b, end)
		if f.Code != api.OK {
			return bodies, end
		}
		bodies = append(bodies, body)
		end = next
	}
}
