// Package dist is layer 1: see shared/doc/01-dist.md. All layers add distances by it, so that no sum wraps round and looks short.
package dist

import (
	"math/bits"
	"strconv"

	"flyover/api"
)

const infText = "inf"

func Add(a, b api.Dist) api.Dist {
	// Held against the room that b leaves below Inf, since a + b itself might wrap round.
	if a >= api.Inf-b {
		return api.Inf
	}
	return a + b
}

// Sum has no error to answer, so no length of its list is too great.
func Sum(l ...api.Dist) api.Dist {
	var total api.Dist
	for _, d := range l {
		total = Add(total, d)
	}
	return total
}

func Sums(l []api.Dist) ([]api.Dist, api.Errno) {
	if len(l) > api.MaxItems {
		return nil, api.ErrLong
	}
	sums := make([]api.Dist, len(l))
	var total api.Dist
	for i, d := range l {
		total = Add(total, d)
		sums[i] = total
	}
	return sums, api.OK
}

// Times doubles w for each binary digit of n, since adding a great n one by one would hardly end.
func Times(w uint32, n int) (api.Dist, api.Errno) {
	if n < 0 {
		return 0, api.ErrRange
	}
	var total api.Dist
	doubled := api.Dist(w)
	for digit := range bits.Len(uint(n)) {
		if n>>digit&1 == 1 {
			total = Add(total, doubled)
		}
		doubled = Add(doubled, doubled)
	}
	return total, api.OK
}

func Least(l []api.Dist) (at int, d api.Dist, e api.Errno) {
	if len(l) > api.MaxItems {
		return 0, 0, api.ErrLong
	}
	if len(l) == 0 {
		return 0, 0, api.ErrNone
	}
	for i := range l {
		if l[i] < l[at] {
			at = i
		}
	}
	return at, l[at], api.OK
}

func Text(d api.Dist) string {
	if d == api.Inf {
		return infText
	}
	return strconv.FormatUint(uint64(d), 10)
}

func Parse(s string) (api.Dist, api.Fault) {
	if len(s) > api.MaxBytes {
		return 0, api.Fault{Code: api.ErrLong}
	}
	if s == infText {
		return api.Inf, api.Fault{}
	}
	n, err := strconv.ParseUint(s, 10, 64)
	// ParseUint also takes a 0 ahead and the digits of Inf: neither comes back when it is written again.
	if err != nil || Text(api.Dist(n)) != s {
		return 0, api.Fault{Code: api.ErrDist}
	}
	return api.Dist(n), api.Fault{}
}
