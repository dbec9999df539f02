package store

import (
	"errors"

	"flyover/api"
	"flyover/code"
)

var errNoRecord = errors.New("no record")

// record is a key and a value; size is how many bytes of a file it takes.
type record struct {
	key, value string
	size       int
}

func mayBe(key string) bool { return len(key) >= 1 && len(key) <= api.MaxName }

// written leaves out what Encode and Frame refuse: a key and a value that were put, or read from a file, are never too long for them.
func written(key, value string) string {
	body, _ := code.Encode(api.Item{Kind: api.KList, L: []api.Item{
		{Kind: api.KText, S: key},
		{Kind: api.KText, S: value},
	}})
	frame, _ := code.Frame(body)
	return frame
}

// read answers the records that stand one behind the other from the beginning on, and where the first bytes begin that are none. Those give up by a panic, which is caught here, so that what stands ahead of them is answered.
func read(b string) (l []record, end int) {
	defer func() {
		if gaveUp := recover(); gaveUp != nil && gaveUp != errNoRecord {
			panic(gaveUp)
		}
	}()
	for end < len(b) {
		r := mustRead(b, end)
		l, end = append(l, r), end+r.size
	}
	return l, end
}

func mustRead(b string, at int) record {
	body, end, f := code.Unframe(b, at)
	must(f.Code == api.OK)
	x, f := code.Decode(body)
	must(f.Code == api.OK && len(x.L) == 2)
	key, value := mustText(x.L[0]), mustText(x.L[1])
	must(mayBe(key))
	return record{key, value, end - at}
}

func mustText(x api.Item) string {
	must(x.Kind == api.KText)
	return x.S
}

func must(holds bool) {
	if !holds {
		panic(errNoRecord)
	}
}

func areRising(l []record) bool {
	for i := 1; i < len(l); i++ {
		if l[i-1].key >= l[i].key {
			return false
		}
	}
	return true
}
