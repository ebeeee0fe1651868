package tree

import (
	"fmt"
	"maps"
	"math"
	"math/rand"
	"slices"
	"strings"
	"testing"

	"hedgerow/api"
)

// model: keys and their numbers, worked with as the chapter says it, without a tree.
type model map[string]int64

func (m model) keys() []string { return slices.Sorted(maps.Keys(m)) }

func (m model) entries() []Entry {
	var l []Entry
	for _, key := range m.keys() {
		l = append(l, Entry{key, m[key]})
	}
	return l
}

func (m model) Put(key string, n int64) (bool, api.Errno) {
	_, there := m[key]
	switch {
	case len(key) > 4096:
		return false, api.ErrLong
	case !there && len(m) == 4096:
		return false, api.ErrMany
	}
	m[key] = n
	return !there, api.OK
}

func (m model) Delete(key string) bool {
	_, there := m[key]
	delete(m, key)
	return there
}

func (m model) Get(key string) (int64, bool) {
	n, there := m[key]
	return n, there
}

func (m model) At(key string) (string, int64, bool) {
	for _, e := range m.entries() {
		if e.Key >= key {
			return e.Key, e.N, true
		}
	}
	return "", 0, false
}

func (m model) Before(key string) (string, int64, bool) {
	for _, e := range slices.Backward(m.entries()) {
		if e.Key < key {
			return e.Key, e.N, true
		}
	}
	return "", 0, false
}

func (m model) Range(from, to string, most int) []Entry {
	var l []Entry
	for _, e := range m.entries() {
		if e.Key >= from && (to == "" || e.Key < to) && len(l) < most {
			l = append(l, e)
		}
	}
	return l
}

// treed: what a tree can do, and the model.
type treed interface {
	Put(key string, n int64) (bool, api.Errno)
	Delete(key string) bool
	Get(key string) (int64, bool)
	At(key string) (string, int64, bool)
	Before(key string) (string, int64, bool)
	Range(from, to string, most int) []Entry
}

// The kinds of calls of a script.
const (
	put = iota
	remove
	get
	at
	before
	span
)

type call struct {
	kind int
	key  string
	to   string // of span
	n    int64  // of put, and of span: how many at most
}

func (c call) String() string {
	name := []string{"Put", "Delete", "Get", "At", "Before", "Range"}[c.kind]
	switch c.kind {
	case put:
		return fmt.Sprintf("%s(%s, %d)", name, short(c.key), c.n)
	case span:
		return fmt.Sprintf("%s(%s, %s, %d)", name, short(c.key), short(c.to), c.n)
	}
	return fmt.Sprintf("%s(%s)", name, short(c.key))
}

// told is what a call answers.
type told struct {
	ok   bool
	key  string
	n    int64
	err  api.Errno
	list string
}

func does(x treed, c call) told {
	var a told
	switch c.kind {
	case put:
		a.ok, a.err = x.Put(c.key, c.n)
	case remove:
		a.ok = x.Delete(c.key)
	case get:
		a.n, a.ok = x.Get(c.key)
	case at:
		a.key, a.n, a.ok = x.At(c.key)
	case before:
		a.key, a.n, a.ok = x.Before(c.key)
	case span:
		for _, e := range x.Range(c.key, c.to, int(c.n)) {
			a.list += fmt.Sprintf("%q %d, ", e.Key, e.N)
		}
	}
	return a
}

// pair: a tree and a model that are told the same.
type pair struct {
	x     *Tree
	m     model
	calls []call
}

func twice(t *testing.T, fan int) *pair {
	t.Helper()
	return &pair{x: fresh(t, fan), m: model{}}
}

// step makes a call twice, and holds the answers against each other.
func (p *pair) step(t *testing.T, c call) {
	t.Helper()
	p.calls = append(p.calls, c)
	got, want := does(p.x, c), does(p.m, c)
	if got != want {
		t.Fatalf("fan %d, %v:\n%+v; want\n%+v", p.x.fan, p.calls, got, want)
	}
}

func (p *pair) whole(t *testing.T) {
	t.Helper()
	has(t, p.calls, p.x, p.m.entries()...)
}

// forked is the pair with copies of both.
func (p *pair) forked() *pair {
	return &pair{x: p.x.Copy(), m: maps.Clone(p.m), calls: slices.Clone(p.calls)}
}

// everywhere asks for all keys of a list, there or not.
func (p *pair) everywhere(t *testing.T, keys []string) {
	t.Helper()
	for _, key := range keys {
		for _, kind := range []int{get, at, before} {
			p.step(t, call{kind: kind, key: key})
		}
		p.calls = p.calls[:len(p.calls)-3]
	}
}

func TestP10_4AllShortScripts(t *testing.T) {
	keys := []string{"", "a", "a\x00", "b"}
	const length = 5
	for n := range int(math.Pow(float64(2*len(keys)), length)) {
		p := twice(t, 3+n%3)
		for i := range length {
			p.step(t, call{kind: n % 2, key: keys[n/2%len(keys)], n: int64(i)})
			n /= 2 * len(keys)
		}
		p.whole(t)
		p.everywhere(t, keys)
	}
}

// eachOrder calls with each order of the numbers below n.
func eachOrder(n int, f func(order []int)) {
	var order []int
	var more func()
	more = func() {
		if len(order) == n {
			f(order)
			return
		}
		for i := range n {
			if !slices.Contains(order, i) {
				order = append(order, i)
				more()
				order = order[:len(order)-1]
			}
		}
	}
	more()
}

func TestP10_4PutInEachOrderAndDeletedInMany(t *testing.T) {
	for _, fan := range []int{3, 4, 5} {
		seen := map[string]bool{}
		eachOrder(7, func(in []int) {
			p := twice(t, fan)
			for _, k := range in {
				p.step(t, call{kind: put, key: name(k), n: int64(k)})
			}
			p.whole(t)
			// Trees of the same nodes come to the same behind this.
			if s := shape(p.x.root); seen[s] {
				return
			} else {
				seen[s] = true
			}
			eachOrder(7, func(out []int) {
				q := p.forked()
				for _, k := range out {
					q.step(t, call{kind: remove, key: name(k)})
					q.whole(t)
				}
			})
		})
	}
}

// shape is a text of a node and all below it.
func shape(n *node) string {
	var s strings.Builder
	s.WriteString("(")
	for i, e := range n.entries {
		if !n.isEnd() {
			s.WriteString(shape(n.kids[i]))
		}
		s.WriteString(e.Key + " ")
	}
	if !n.isEnd() {
		s.WriteString(shape(n.kids[len(n.entries)]))
	}
	return s.String() + ")"
}

func TestP10_4EachTwoDeletedOfTreesOfManySizes(t *testing.T) {
	for _, fan := range []int{3, 4, 5, 6, 7} {
		for _, n := range []int{1, 2, 3, 8, 17, 26, 31} {
			for _, in := range orders(n) {
				p := twice(t, fan)
				for _, k := range in {
					p.step(t, call{kind: put, key: name(2 * k), n: int64(k)})
				}
				for first := range n {
					q := p.forked()
					q.step(t, call{kind: remove, key: name(2 * first)})
					q.whole(t)
					for second := range n {
						r := q.forked()
						r.step(t, call{kind: remove, key: name(2 * second)})
						r.step(t, call{kind: put, key: name(2*first + 1), n: -1})
						r.whole(t)
					}
				}
				p.whole(t)
			}
		}
	}
}

// anyKey: of few bytes, so that keys come again and begin with one another, or long.
func anyKey(r *rand.Rand, most int) string {
	if r.Intn(100) == 0 {
		return strings.Repeat("\xff", 4090+r.Intn(12))
	}
	if most > 300 {
		return fmt.Sprintf("%x", r.Intn(most))
	}
	b := make([]byte, r.Intn(5))
	for i := range b {
		b[i] = "\x00\x01a\xfe\xff"[r.Intn(5)]
	}
	return string(b)
}

func anyCall(r *rand.Rand, most, grows int) call {
	key := anyKey(r, most)
	switch n := r.Intn(100); {
	case n < grows:
		return call{kind: put, key: key, n: r.Int63() - r.Int63()}
	case n < 80:
		return call{kind: remove, key: key}
	case n < 84:
		return call{kind: get, key: key}
	case n < 88:
		return call{kind: at, key: key}
	case n < 92:
		return call{kind: before, key: key}
	}
	return call{kind: span, key: key, to: anyKey(r, most), n: int64(r.Intn(20) - 2)}
}

func TestP10_4AnyCalls(t *testing.T) {
	for seed := range 300 {
		r := rand.New(rand.NewSource(int64(seed)))
		all := []int{3, 3, 4, 5, 6, 7, 8, 9, 15, 16, 31, 32, 63, 64}
		p := twice(t, all[r.Intn(len(all))])
		most := []int{100, 200, 400, 3000}[r.Intn(4)]
		var others []*pair
		for i := range 700 {
			// It grows and it shrinks, by turns.
			p.step(t, anyCall(r, most, []int{70, 15}[i/175%2]))
			if i%7 == 0 {
				p.whole(t)
			}
			if i%100 == 50 {
				others = append(others, p)
				p = p.forked()
			}
		}
		for _, q := range others {
			q.whole(t)
		}
		for _, key := range p.m.keys() {
			p.step(t, call{kind: remove, key: key})
		}
		p.whole(t)
		tellsNothing(t, p.x)
	}
}

func TestP10_4AnyCallsOfATreeThatIsNearlyFull(t *testing.T) {
	for seed, fan := range []int{3, 4, 5, 64} {
		r := rand.New(rand.NewSource(int64(seed)))
		p := twice(t, fan)
		for i := range api.MaxKeys - 3 {
			p.step(t, call{kind: put, key: name(i), n: int64(i)})
		}
		for range 4000 {
			c := call{kind: r.Intn(2), key: name(r.Intn(2 * api.MaxKeys)), n: r.Int63()}
			if r.Intn(4) > 0 {
				c.kind = put
			}
			p.step(t, c)
		}
		p.whole(t)
		if n := p.x.Len(); n < api.MaxKeys-100 {
			t.Errorf("fan %d: Len %d: far from full", fan, n)
		}
	}
}
