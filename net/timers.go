package net

import (
	"slices"
	"sort"

	"flyover/api"
)

func isAhead(a, b api.Timer) bool {
	if a.At != b.At {
		return a.At < b.At
	}
	return a.Node < b.Node
}

// Set puts a timer behind those of the same node and time, since these were set ahead of it.
func (n *Net) Set(node, at, tag int) api.Errno {
	if !n.isNode(node) {
		return api.ErrNode
	}
	if n.down[node] {
		return api.ErrDown
	}
	if at <= n.now || at > api.MaxTicks {
		return api.ErrRange
	}
	if len(n.timers) == api.MaxItems {
		return api.ErrLong
	}
	t := api.Timer{Node: node, At: at, Tag: tag}
	place := sort.Search(len(n.timers), func(i int) bool { return isAhead(t, n.timers[i]) })
	n.timers = slices.Insert(n.timers, place, t)
	return api.OK
}

func (n *Net) Tick() ([]api.Timer, api.Errno) {
	if n.now == api.MaxTicks {
		return nil, api.ErrRange
	}
	n.now++
	due := 0
	for due < len(n.timers) && n.timers[due].At == n.now {
		due++
	}
	told := append([]api.Timer(nil), n.timers[:due]...)
	n.timers = slices.Delete(n.timers, 0, due)
	return told, api.OK
}

func (n *Net) Now() int { return n.now }
