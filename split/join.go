package split

import (
	"cmp"
	"slices"

	"flyover/api"
)

// link is two labels, a below b, that have pairs between them.
type link struct{ a, b, pairs int }

// The rules of choosing between two links: what they tell is below 0 for the first one, above 0 for the other one, 0 where the next rule has to say.
func (l link) mostPairs(m link) int   { return cmp.Compare(m.pairs, l.pairs) }
func (l link) leastFirst(m link) int  { return cmp.Compare(l.a, m.a) }
func (l link) leastSecond(m link) int { return cmp.Compare(l.b, m.b) }

func (l link) has(label int) bool { return label == l.a || label == l.b }

func choose(links []link, rules ...func(l, m link) int) link {
	return slices.MinFunc(links, func(l, m link) int {
		for _, rule := range rules {
			if told := rule(l, m); told != 0 {
				return told
			}
		}
		return 0
	})
}

// joining is labels that are being put together.
//
// Where two become one, the lesser label stays, which has the least vertex of both: so the labels left stand in the order they would have when tidied each time, and it does to tidy them once, in the end.
//
// open are the links whose labels can be joined, in no order. The others are left out for good: sizes never fall, so these cannot be joined later either, nor can what one of their labels becomes a part of.
type joining struct {
	bound         int
	labels, sizes []int
	open          []link
}

// begin keeps sizes, and changes them; labels it copies.
func begin(all []api.Pair, labels, sizes []int, bound int) *joining {
	j := &joining{bound: bound, labels: slices.Clone(labels), sizes: sizes}
	for _, l := range linksOf(all, labels) {
		j.offer(l)
	}
	return j
}

// linksOf keeps links in the order in which their first pairs come, since a map has none of its own.
func linksOf(all []api.Pair, labels []int) []link {
	var links []link
	places := map[link]int{}
	for _, pair := range all {
		a, b := labels[pair.A], labels[pair.B]
		if a == b {
			continue
		}
		l := link{a: min(a, b), b: max(a, b)}
		at, there := places[l]
		if !there {
			at = len(links)
			places[l] = at
			links = append(links, l)
		}
		links[at].pairs++
	}
	return links
}

func (j *joining) offer(l link) {
	if j.sizes[l.a]+j.sizes[l.b] <= j.bound {
		j.open = append(j.open, l)
	}
}

func (j *joining) join(l link) {
	for v, label := range j.labels {
		if label == l.b {
			j.labels[v] = l.a
		}
	}
	j.sizes[l.a] += j.sizes[l.b]
	for other, pairs := range j.takeOut(l) {
		if pairs > 0 {
			j.offer(link{a: min(l.a, other), b: max(l.a, other), pairs: pairs})
		}
	}
}

// takeOut takes away the links of both labels of l, and answers of each other label how many pairs these had with it.
func (j *joining) takeOut(l link) []int {
	beside, others := make([]int, len(j.sizes)), j.open[:0]
	for _, m := range j.open {
		switch first, second := l.has(m.a), l.has(m.b); {
		case first && second:
			// It is l itself: what was between both lies inside now.
		case first:
			beside[m.b] += m.pairs
		case second:
			beside[m.a] += m.pairs
		default:
			others = append(others, m)
		}
	}
	j.open = others
	return beside
}
