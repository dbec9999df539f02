package net

import (
	"maps"
	"slices"
	"strings"

	"flyover/api"
)

func (n *Net) isLink(link [2]int) bool {
	return n.isNode(link[0]) && n.isNode(link[1]) && link[0] != link[1]
}

// Send puts a copy in, since a piece of a longer text would keep all of it.
func (n *Net) Send(from, to int, body string) api.Errno {
	link := [2]int{from, to}
	if !n.isLink(link) {
		return api.ErrNode
	}
	if len(body) > api.MaxBytes {
		return api.ErrLong
	}
	if n.down[from] {
		return api.ErrDown
	}
	return n.put(link, strings.Clone(body))
}

func (n *Net) put(link [2]int, letter string) api.Errno {
	bag := n.bags[link]
	if len(bag) == api.MaxLetters {
		return api.ErrLong
	}
	n.bags[link] = append(bag, letter)
	return api.OK
}

func (n *Net) letter(link [2]int, k int) (string, api.Errno) {
	if !n.isLink(link) {
		return "", api.ErrNode
	}
	bag := n.bags[link]
	if k < 0 || k >= len(bag) {
		return "", api.ErrNone
	}
	return bag[k], api.OK
}

// Take answers a copy, since a letter may share its bytes with one that was copied from it.
func (n *Net) Take(from, to, k int) (string, api.Errno) {
	link := [2]int{from, to}
	letter, e := n.letter(link, k)
	if e != api.OK {
		return "", e
	}
	if n.down[to] {
		return "", api.ErrDown
	}
	n.drop(link, k)
	return strings.Clone(letter), api.OK
}

// Copy lets both letters share their bytes: else copies of long ones would take far more room than what was sent.
func (n *Net) Copy(from, to, k int) api.Errno {
	link := [2]int{from, to}
	letter, e := n.letter(link, k)
	if e != api.OK {
		return e
	}
	return n.put(link, letter)
}

func (n *Net) Lose(from, to, k int) api.Errno {
	link := [2]int{from, to}
	if _, e := n.letter(link, k); e != api.OK {
		return e
	}
	n.drop(link, k)
	return api.OK
}

func (n *Net) drop(link [2]int, k int) {
	left := slices.Delete(n.bags[link], k, k+1)
	if len(left) == 0 {
		delete(n.bags, link)
		return
	}
	n.bags[link] = left
}

// Bag answers copies, as Take does.
func (n *Net) Bag(from, to int) ([]string, api.Errno) {
	link := [2]int{from, to}
	if !n.isLink(link) {
		return nil, api.ErrNode
	}
	letters := slices.Clone(n.bags[link])
	for k, letter := range letters {
		letters[k] = strings.Clone(letter)
	}
	return letters, api.OK
}

func (n *Net) Links() [][2]int {
	return slices.SortedFunc(maps.Keys(n.bags), func(a, b [2]int) int { return slices.Compare(a[:], b[:]) })
}
