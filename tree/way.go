package tree

import "slices"

// spot is a node, and an entry of it (or what is behind them all).
type spot struct {
	n  *node
	at int
}

func (s spot) entry() *Entry { return &s.n.entries[s.at] }

// before is the spot one entry ahead.
func (s spot) before() spot { return spot{n: s.n, at: s.at - 1} }

// last is where a way leads to.
func last(way []spot) spot { return way[len(way)-1] }

// walk is the way down from the root to a key. If it is not there, the way leads to
// the end where it would stand. In each node the spot is the first entry that is not
// below the key.
func (t *Tree) walk(key string) (way []spot, there bool) {
	n := t.root
down:
	for {
		at, found := n.find(key)
		way = append(way, spot{n: n, at: at})
		switch {
		case found:
			there = true
			break down
		case n.isEnd():
			break down
		}
		n = n.kids[at]
	}
	return way, there
}

// lower goes on to the end where the keys stand that are just below the spot that a
// way leads to.
func lower(way []spot) []spot {
	for s := last(way); !s.n.isEnd(); {
		kid := s.n.kids[s.at]
		s = spot{n: kid, at: len(kid.entries)}
		way = append(way, s)
	}
	return way
}

// insert puts an entry where a way leads to, which is an end, and splits what grows
// beyond the fan by that, from there up.
func (t *Tree) insert(way []spot, e Entry) {
	t.size++
	var right *node
	for _, s := range slices.Backward(way) {
		s.n.insert(s.at, e, right)
		if !s.n.tooMany(t.fan) {
			return
		}
		e, right = s.n.split()
	}
	t.root = &node{entries: []Entry{e}, kids: []*node{t.root, right}}
}

// remove takes out the entry that a way leads to, and mends what has too few by that,
// from there up.
func (t *Tree) remove(way []spot) {
	t.size--
	out := last(way)
	if !out.n.isEnd() {
		// Its kids need an entry between them: the next lower one, which stands at an
		// end, takes the place.
		way = lower(way)
		next := last(way).before()
		*out.entry() = *next.entry()
		out = next
	}
	out.n.entries = slices.Delete(out.n.entries, out.at, out.at+1)
	for i := len(way) - 1; i > 0 && way[i].n.tooFew(t.fan); i-- {
		up := way[i-1]
		up.n.mend(up.at, t.fan)
	}
	if len(t.root.entries) == 0 && !t.root.isEnd() {
		t.root = t.root.kids[0]
	}
}
