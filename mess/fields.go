package mess

import (
	"slices"

	"flyover/api"
)

// field is one of a message's, but its Kind.
type field int

const (
	epoch field = iota
	level
	cell
	query
	vertex
	other
	back
	weights
	mats
	dists
	fields
)

// fieldsOf has of each kind its fields, in the order in which they are written.
var fieldsOf = [...][]field{
	api.MJob:   {epoch, level, cell, weights, mats},
	api.MDone:  {epoch, level, cell, dists},
	api.MPart:  {query, epoch, vertex, other, back, weights},
	api.MPiece: {query, epoch, back, dists},
}

// isKind knows that no field stands in the table where there is no kind.
func isKind(kind int) bool {
	return kind >= 0 && kind < len(fieldsOf) && len(fieldsOf[kind]) > 0
}

// place is where m has a field that is a number; it has none of the others.
func place(m *api.Message, f field) *int {
	switch f {
	case epoch:
		return &m.Epoch
	case level:
		return &m.Level
	case cell:
		return &m.Cell
	case query:
		return &m.Query
	case vertex:
		return &m.Vertex
	case other:
		return &m.Other
	case back:
		return &m.Back
	}
	return nil
}

// most is the greatest number that may stand in a field.
func most(f field) int {
	if f == back {
		return 1
	}
	return api.MaxTicks
}

func hasLongList(m api.Message) bool {
	if max(len(m.Weights), len(m.Mats), len(m.D)) > api.MaxItems {
		return true
	}
	return slices.ContainsFunc(m.Mats, func(x api.Matrix) bool { return len(x.D) > api.MaxItems })
}

func mayBe(m api.Message) bool {
	if !isKind(m.Kind) {
		return false
	}
	for f := range fields {
		right := isZero
		if slices.Contains(fieldsOf[m.Kind], f) {
			right = isWithin
		}
		if !right(m, f) {
			return false
		}
	}
	return true
}

func isZero(m api.Message, f field) bool {
	switch f {
	case weights:
		return len(m.Weights) == 0
	case mats:
		return len(m.Mats) == 0
	case dists:
		return len(m.D) == 0
	}
	return *place(&m, f) == 0
}

// isWithin has nothing to ask of weights and distances: all of their numbers may be.
func isWithin(m api.Message, f field) bool {
	switch f {
	case weights, dists:
		return true
	case mats:
		return !slices.ContainsFunc(m.Mats, isOutside)
	}
	n := *place(&m, f)
	return n >= 0 && n <= most(f)
}

func isOutside(m api.Matrix) bool {
	return min(m.Level, m.Cell, m.Epoch) < 0 || max(m.Level, m.Cell, m.Epoch) > api.MaxTicks
}

// leastBytes lets messages that are far too long be refused ahead of being made items: each number of a list takes a byte of its kind, and another one.
func leastBytes(m api.Message) int {
	numbers := len(m.Weights) + len(m.D)
	for _, x := range m.Mats {
		numbers += len(x.D)
	}
	return 2 * numbers
}
