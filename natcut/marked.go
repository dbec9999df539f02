package natcut

import "flyover/api"

// markedPairs has what is marked as its keys, so that a pair that several cuts mark stands in it once.
type markedPairs map[api.Pair]struct{}

func (m markedPairs) add(pairs []api.Pair) {
	for _, pair := range pairs {
		m[pair] = struct{}{}
	}
}

// takeFrom goes through a graph's pairs, since a map has no order of its own, and takes what it finds out of the map: once nothing is left in it, all that follows is unmarked. What stays in it are no neighbours.
func (m markedPairs) takeFrom(all []api.Pair) (taken, others []api.Pair) {
	for at, pair := range all {
		if len(m) == 0 {
			return taken, append(others, all[at:]...)
		}
		if _, marked := m[pair]; !marked {
			others = append(others, pair)
			continue
		}
		delete(m, pair)
		taken = append(taken, pair)
	}
	return taken, others
}
