package tree

import (
	"iter"
	"slices"
	"strings"
)

// node is entries, rising. It is an end, or it has kids, one more than entries: the
// keys of each kid are above the entry ahead of it, and below the one behind it.
type node struct {
	entries []Entry
	kids    []*node
}

func (n *node) isEnd() bool { return len(n.kids) == 0 }

// tooMany: its kids would be more than the fan, if it had some.
func (n *node) tooMany(fan int) bool { return len(n.entries)+1 > fan }

// tooFew: its kids would be fewer than half the fan, if it had some.
func (n *node) tooFew(fan int) bool { return 2*(len(n.entries)+1) < fan }

// find is the first entry that is not below key, and whether it is key's.
func (n *node) find(key string) (at int, there bool) {
	return slices.BinarySearchFunc(n.entries, key, func(e Entry, key string) int {
		return strings.Compare(e.Key, key)
	})
}

// rising is the entries from a key on, of the node and all below it.
func (n *node) rising(from string) iter.Seq[Entry] {
	return func(yield func(Entry) bool) { n.each(from, yield) }
}

// each tells false, if yield did.
func (n *node) each(from string, yield func(Entry) bool) bool {
	first, _ := n.find(from)
	for at := first; ; at++ {
		if !n.isEnd() && !n.kids[at].each(from, yield) {
			return false
		}
		if at == len(n.entries) {
			return true
		}
		if !yield(n.entries[at]) {
			return false
		}
	}
}

// insert puts an entry in, and, if the node has kids, the one behind it.
func (n *node) insert(at int, e Entry, behind *node) {
	n.entries = slices.Insert(n.entries, at, e)
	if !n.isEnd() {
		n.kids = slices.Insert(n.kids, at+1, behind)
	}
}

// split keeps the lower half: it tells the entry behind that, and a node of all above.
func (n *node) split() (Entry, *node) {
	half := len(n.entries) / 2
	e := n.entries[half]
	right := &node{entries: slices.Clone(n.entries[half+1:])}
	n.entries = slices.Delete(n.entries, half, len(n.entries))
	if !n.isEnd() {
		right.kids = slices.Clone(n.kids[half+1:])
		n.kids = slices.Delete(n.kids, half+1, len(n.kids))
	}
	return e, right
}

// join makes one kid of the two beside an entry, and of that entry.
func (n *node) join(at int) {
	left, right := n.kids[at], n.kids[at+1]
	left.entries = append(append(left.entries, n.entries[at]), right.entries...)
	left.kids = append(left.kids, right.kids...)
	n.entries = slices.Delete(n.entries, at, at+1)
	n.kids = slices.Delete(n.kids, at+1, at+2)
}

// mend joins a kid that has too few with one beside it. Where that is too many, the
// halves of it are enough.
func (n *node) mend(kid, fan int) {
	at := max(kid-1, 0)
	n.join(at)
	joined := n.kids[at]
	if joined.tooMany(fan) {
		e, right := joined.split()
		n.insert(at, e, right)
	}
}

func (n *node) copy() *node {
	c := &node{entries: slices.Clone(n.entries)}
	for _, kid := range n.kids {
		c.kids = append(c.kids, kid.copy())
	}
	return c
}
