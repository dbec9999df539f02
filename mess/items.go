package mess

import (
	"math"

	"flyover/api"
)

func itemOf(m api.Message) api.Item {
	l := []api.Item{number(uint64(m.Kind))}
	for _, f := range fieldsOf[m.Kind] {
		l = append(l, itemOfField(m, f))
	}
	return list(l)
}

func itemOfField(m api.Message, f field) api.Item {
	switch f {
	case weights:
		return numbers(m.Weights)
	case mats:
		return matrices(m.Mats)
	case dists:
		return numbers(m.D)
	}
	return number(uint64(*place(&m, f)))
}

func number(n uint64) api.Item {
	return api.Item{Kind: api.KNumber, N: n}
}

func list(l []api.Item) api.Item {
	return api.Item{Kind: api.KList, L: l}
}

func numbers[N uint32 | api.Dist](l []N) api.Item {
	items := make([]api.Item, len(l))
	for at, n := range l {
		items[at] = number(uint64(n))
	}
	return list(items)
}

func matrices(l []api.Matrix) api.Item {
	items := make([]api.Item, len(l))
	for at, m := range l {
		items[at] = list([]api.Item{number(uint64(m.Level)), number(uint64(m.Cell)), number(uint64(m.Epoch)), numbers(m.D)})
	}
	return list(items)
}

// messageOf answers false of an item that is no message that may be.
func messageOf(x api.Item) (api.Message, bool) {
	if len(x.L) == 0 {
		return api.Message{}, false
	}
	kind, ok := small(x.L[0], api.MaxTicks)
	if !ok || !isKind(kind) || len(x.L) != 1+len(fieldsOf[kind]) {
		return api.Message{}, false
	}
	m := api.Message{Kind: kind}
	for at, f := range fieldsOf[kind] {
		if !readField(&m, f, x.L[1+at]) {
			return api.Message{}, false
		}
	}
	return m, true
}

func readField(m *api.Message, f field, x api.Item) (ok bool) {
	switch f {
	case weights:
		m.Weights, ok = readNumbers[uint32](x, math.MaxUint32)
	case mats:
		m.Mats, ok = readMatrices(x)
	case dists:
		m.D, ok = readNumbers[api.Dist](x, math.MaxUint64)
	default:
		*place(m, f), ok = small(x, most(f))
	}
	return ok
}

func small(x api.Item, most int) (int, bool) {
	if x.Kind != api.KNumber || x.N > uint64(most) {
		return 0, false
	}
	return int(x.N), true
}

func readNumbers[N uint32 | api.Dist](x api.Item, most uint64) ([]N, bool) {
	if x.Kind != api.KList {
		return nil, false
	}
	l := make([]N, len(x.L))
	for at, member := range x.L {
		if member.Kind != api.KNumber || member.N > most {
			return nil, false
		}
		l[at] = N(member.N)
	}
	return l, true
}

func readMatrices(x api.Item) ([]api.Matrix, bool) {
	if x.Kind != api.KList {
		return nil, false
	}
	l := make([]api.Matrix, len(x.L))
	for at, member := range x.L {
		m, ok := matrixOf(member)
		if !ok {
			return nil, false
		}
		l[at] = m
	}
	return l, true
}

func matrixOf(x api.Item) (m api.Matrix, ok bool) {
	if len(x.L) != 4 {
		return m, false
	}
	for at, n := range []*int{&m.Level, &m.Cell, &m.Epoch} {
		if *n, ok = small(x.L[at], api.MaxTicks); !ok {
			return m, false
		}
	}
	m.D, ok = readNumbers[api.Dist](x.L[3], math.MaxUint64)
	return m, ok
}
