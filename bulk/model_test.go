package bulk

import (
	"fmt"
	"maps"
	"math/rand"
	"slices"
	"strings"
	"testing"

	"hedgerow/api"
	"hedgerow/tree"
)

// model: what was added, worked with as the chapter says it.
type model struct {
	l    []tree.Entry
	done bool
}

func (m *model) Add(l []tree.Entry) api.Errno {
	if m.done {
		return api.ErrArg
	}
	// Sorted and each key once, it must be the same list.
	all, once := slices.Concat(m.l, l), map[string]int64{}
	for _, e := range all {
		if len(e.Key) > 4096 {
			return api.ErrLong
		}
		once[e.Key] = e.N
	}
	switch {
	case !slices.Equal(inOrder(once), all):
		return api.ErrOrder
	case len(all) > 4096:
		return api.ErrMany
	}
	m.l = all
	return api.OK
}

func (m *model) Last() (string, bool) {
	if len(m.l) == 0 {
		return "", false
	}
	return m.l[len(m.l)-1].Key, true
}

// inOrder is the entries of a map from keys to numbers, rising.
func inOrder(m map[string]int64) []tree.Entry {
	var l []tree.Entry
	for _, key := range slices.Sorted(maps.Keys(m)) {
		l = append(l, tree.Entry{Key: key, N: m[key]})
	}
	return l
}

// pair: a Bulk and a model that are told the same.
type pair struct {
	fan int
	b   *Bulk
	m   model
	// x: the tree, behind Done.
	x     *tree.Tree
	calls string
}

func twice(t *testing.T, fan int) *pair {
	t.Helper()
	return &pair{fan: fan, b: fresh(t, fan)}
}

func (p *pair) add(t *testing.T, l ...tree.Entry) {
	t.Helper()
	p.calls += fmt.Sprintf("Add(%s) ", shorts(l))
	if got, want := p.b.Add(l), p.m.Add(l); got != want {
		t.Fatalf("fan %d, %s: error %d; want %d", p.fan, p.calls, got, want)
	}
	p.same(t)
}

func (p *pair) end(t *testing.T) {
	t.Helper()
	p.calls += "Done "
	x, err := p.b.Done()
	switch {
	case p.m.done && (x != nil || err != api.ErrArg):
		t.Fatalf("fan %d, %s: tree %v, error %d", p.fan, p.calls, x != nil, err)
	case !p.m.done && (x == nil || err != api.OK):
		t.Fatalf("fan %d, %s: tree %v, error %d", p.fan, p.calls, x != nil, err)
	case !p.m.done:
		p.x = x
	}
	p.m.done = true
	p.same(t)
}

// same holds what both have.
func (p *pair) same(t *testing.T) {
	t.Helper()
	last, ok := p.b.Last()
	wantLast, wantOk := p.m.Last()
	if n := p.b.Len(); n != len(p.m.l) || last != wantLast || ok != wantOk {
		t.Fatalf("fan %d, %s: Len %d, Last %s, %v; want %d, %s, %v", p.fan, p.calls, n, short(last), ok, len(p.m.l), short(wantLast), wantOk)
	}
	if p.x != nil {
		has(t, p.calls, p.x, p.fan, p.m.l...)
	}
}

func TestP11_1AllShortScripts(t *testing.T) {
	keys := []string{"", "a", "a\x00", "b", "c"}
	// The lists of at most two of the keys, and behind them Done.
	lists := [][]tree.Entry{nil}
	for i, a := range keys {
		lists = append(lists, []tree.Entry{{Key: a, N: int64(i)}})
		for j, b := range keys {
			lists = append(lists, []tree.Entry{{Key: a, N: int64(i)}, {Key: b, N: int64(-j)}})
		}
	}
	const length = 3
	kinds := len(lists) + 1
	for n := range kinds * kinds * kinds {
		p := twice(t, 3+n%3)
		for range length {
			if which := n % kinds; which < len(lists) {
				p.add(t, lists[which]...)
			} else {
				p.end(t)
			}
			n /= kinds
		}
		p.end(t)
		p.add(t)
	}
}

func anyKey(r *rand.Rand) string {
	switch r.Intn(60) {
	case 0:
		return strings.Repeat("\xff", 4090+r.Intn(12))
	case 1:
		return strings.Repeat("\x00", 4090+r.Intn(12))
	}
	b := make([]byte, r.Intn(6))
	for i := range b {
		b[i] = "\x00\x01a\xfe\xff"[r.Intn(5)]
	}
	return string(b)
}

// anyList is most often in order and above a key, and now and then not.
func anyList(r *rand.Rand, above string, any bool, most int) []tree.Entry {
	once := map[string]int64{}
	for range r.Intn(most) {
		key := anyKey(r)
		if any && r.Intn(3) > 0 {
			key = above[:min(len(above), 20)] + key
		}
		if !any || key > above {
			once[key] = r.Int63() - r.Int63()
		}
	}
	l := inOrder(once)
	if r.Intn(4) > 0 {
		// The longest keys would end what may come.
		l = slices.DeleteFunc(l, func(e tree.Entry) bool { return strings.HasPrefix(e.Key, "\xff") || len(e.Key) > 100 })
	}
	if len(l) > 0 && r.Intn(5) == 0 {
		i := r.Intn(len(l))
		l[i].Key = []string{above, "", l[r.Intn(len(l))].Key, anyKey(r)}[r.Intn(4)]
	}
	return l
}

func TestP11_1AnyLists(t *testing.T) {
	most, all := 0, 0
	for seed := range 1500 {
		r := rand.New(rand.NewSource(int64(seed)))
		p := twice(t, 3+r.Intn(62))
		for range 1 + r.Intn(25) {
			last, any := p.b.Last()
			p.add(t, anyList(r, last, any, []int{2, 5, 40}[r.Intn(3)])...)
		}
		most = max(most, p.b.Len())
		all += p.b.Len()
		p.end(t)
		p.add(t, anyList(r, "", false, 3)...)
		p.end(t)
	}
	if most < 60 || all < 15000 {
		t.Errorf("at most %d keys, %d in all: that is not much", most, all)
	}
}

func TestP11_1AnyListsOfOneThatIsNearlyFull(t *testing.T) {
	for seed, fan := range []int{3, 4, 5, 63, 64} {
		r := rand.New(rand.NewSource(int64(seed)))
		p := twice(t, fan)
		p.add(t, named(0, 4000)...)
		for next := 4000; next < 4096; {
			n := r.Intn(2 * (4096 - next))
			p.add(t, named(10000, 10000+4096-next+1+r.Intn(3))...)
			p.add(t, named(next, next+n)...)
			if next+n <= 4096 {
				next += n
			}
		}
		p.add(t, named(4096, 4097)...)
		p.end(t)
	}
}

func TestP11_2CutIntoListsInEveryWay(t *testing.T) {
	all := []tree.Entry{{Key: "", N: 3}, {Key: "\x00", N: -1}, {Key: "a"}, {Key: "a\x00", N: 7}, {Key: "ab", N: 1 << 62}, {Key: "b", N: 5}, {Key: "ba", N: 5}, {Key: "c", N: 9}, {Key: "\xff", N: -8}, {Key: "\xff\xff", N: 2}}
	for _, fan := range []int{3, 4, 5, 64} {
		for n := range len(all) + 1 {
			for cuts := range 1 << max(n-1, 0) {
				for _, empty := range []bool{false, true} {
					p := twice(t, fan)
					from := 0
					for i := range n {
						if i < n-1 && cuts>>i&1 == 0 {
							continue
						}
						p.add(t, all[from:i+1]...)
						from = i + 1
						if empty {
							p.add(t)
						}
					}
					p.end(t)
					if p.x.Len() != n {
						t.Fatalf("%s: %d keys; want %d", p.calls, p.x.Len(), n)
					}
				}
			}
		}
	}
}

// orders of the numbers below n: rising, falling, from both ends, and one of leaps.
func orders(n int) [][]int {
	var rising, falling, ends, leaps []int
	for i := range n {
		rising = append(rising, i)
		falling = append(falling, n-1-i)
		if i%2 == 0 {
			ends = append(ends, i/2)
		} else {
			ends = append(ends, n-1-i/2)
		}
	}
	for first := range 7 {
		for i := first; i < n; i += 7 {
			leaps = append(leaps, i)
		}
	}
	return [][]int{rising, falling, ends, leaps}
}

// TestOrders: each order has each number once, so that the tests that go by them
// reach all keys.
func TestOrders(t *testing.T) {
	for _, n := range []int{0, 1, 2, 3, 6, 7, 8, 130, 131} {
		for i, order := range orders(n) {
			l := slices.Sorted(slices.Values(order))
			if len(l) != n || n > 0 && (l[0] != 0 || l[n-1] != n-1) || len(slices.Compact(l)) != n {
				t.Errorf("%d, order %d: %v", n, i, order)
			}
		}
	}
}

// changed puts a key behind each of the n that a tree has, in an order, and takes all
// of them out again in another; the tree must be flat behind each call.
func changed(t *testing.T, x *tree.Tree, fan, n int, in, out []int) {
	t.Helper()
	for i, k := range in {
		if added, err := x.Put(name(k)+"x", -1); !added || err != api.OK || x.Len() != n+i+1 {
			t.Fatalf("fan %d, %d keys: Put(%sx): %v, error %d, Len %d", fan, n, name(k), added, err, x.Len())
		}
		flat(t, "behind a Put", x, fan)
	}
	for i, k := range out {
		if !x.Delete(name(k)) || x.Len() != n+len(in)-i-1 {
			t.Fatalf("fan %d, %d keys: Delete(%s), Len %d", fan, n, name(k), x.Len())
		}
		flat(t, "behind a Delete", x, fan)
	}
	var want []tree.Entry
	for _, k := range slices.Sorted(slices.Values(in)) {
		want = append(want, tree.Entry{Key: name(k) + "x", N: -1})
	}
	has(t, "changed", x, fan, want...)
	for _, k := range in {
		if !x.Delete(name(k)+"x") || x.Delete(name(k)+"x") {
			t.Fatalf("fan %d, %d keys: Delete(%sx)", fan, n, name(k))
		}
		flat(t, "behind a Delete", x, fan)
	}
	has(t, "emptied", x, fan)
}

func TestP11_2TreesOfEachSize(t *testing.T) {
	for _, fan := range fans() {
		all := named(0, 260)
		for n := range len(all) + 1 {
			b := fresh(t, fan)
			for part := range slices.Chunk(all[:n], 1+n%9) {
				adds(t, b, api.OK, part...)
			}
			x := done(t, b, fan, all[:n]...)
			l := orders(n)
			if n <= 130 || n%10 == fan%10 {
				changed(t, x, fan, n, l[n%4], l[(n/4+fan)%4])
			}
		}
	}
}

func TestP11_2TreesOfEachSizeInEachOrder(t *testing.T) {
	for _, fan := range []int{3, 4, 5, 6, 7, 64} {
		for _, n := range []int{0, 1, 2, 3, 4, 5, 6, 7, 8, 9, 26, 27, 31, 63, 64, 80, 130} {
			for _, in := range orders(n) {
				for _, out := range orders(n) {
					b := fresh(t, fan)
					adds(t, b, api.OK, named(0, n)...)
					changed(t, done(t, b, fan, named(0, n)...), fan, n, in, out)
				}
			}
		}
	}
}

func TestP11_2TreesOfMaxKeys(t *testing.T) {
	for _, fan := range fans() {
		l := orders(4096)
		for i, order := range l {
			x := done(t, full(t, fan), fan, named(0, 4096)...)
			// It is full: nothing more, but what is there may be put anew.
			if added, err := x.Put("l", 1); added || err != api.ErrMany {
				t.Fatalf("fan %d: Put: %v, error %d; want error %d", fan, added, err, api.ErrMany)
			}
			if added, err := x.Put(name(7), 7); added || err != api.OK {
				t.Fatalf("fan %d: Put anew: %v, error %d", fan, added, err)
			}
			for _, k := range order[:2048] {
				if !x.Delete(name(k)) {
					t.Fatalf("fan %d, order %d: Delete(%s)", fan, i, name(k))
				}
				flat(t, "behind a Delete", x, fan)
			}
			for _, k := range order[:2048] {
				if added, err := x.Put(name(k), int64(k)); !added || err != api.OK {
					t.Fatalf("fan %d, order %d: Put(%s): %v, error %d", fan, i, name(k), added, err)
				}
				flat(t, "behind a Put", x, fan)
			}
			has(t, "half of it put again", x, fan, named(0, 4096)...)
			for _, k := range l[(i+fan)%4] {
				if !x.Delete(name(k)) {
					t.Fatalf("fan %d, order %d: Delete(%s)", fan, i, name(k))
				}
				flat(t, "behind a Delete", x, fan)
			}
			has(t, "all deleted", x, fan)
		}
	}
}

// TestP11_2TheFan: nodes of fewer kids than the fan would be too deep, nodes of more
// would have the keys in fewer steps.
func TestP11_2TheFan(t *testing.T) {
	for _, x := range []struct{ fan, n, least int }{
		{3, 0, 0}, {3, 1, 1}, {3, 2, 1}, {3, 3, 2}, {3, 8, 2}, {3, 9, 3}, {3, 4096, 8}, {4, 4, 2}, {4, 4096, 7},
		{5, 4, 1}, {5, 5, 2}, {5, 4096, 6}, {16, 16, 2}, {63, 62, 1}, {63, 63, 2}, {64, 64, 2}, {64, 4096, 3},
	} {
		b := fresh(t, x.fan)
		adds(t, b, api.OK, named(0, x.n)...)
		if d := done(t, b, x.fan, named(0, x.n)...).Depth(); d < x.least {
			t.Errorf("fan %d, %d keys: Depth %d; at least %d", x.fan, x.n, d, x.least)
		}
	}
}

// TestP11_2AsPutOfAllKeys asks a tree of a Bulk and one of Puts, and its copies, the
// same, while both are changed.
func TestP11_2AsPutOfAllKeys(t *testing.T) {
	for seed := range 200 {
		r := rand.New(rand.NewSource(int64(seed)))
		fan := 3 + r.Intn(62)
		if seed%2 == 0 {
			fan = 3 + r.Intn(4)
		}
		b := fresh(t, fan)
		byPut, err := tree.New(fan)
		if err != api.OK {
			t.Fatal(err)
		}
		once := map[string]int64{}
		for range r.Intn(300) {
			once[anyKey(r)] = r.Int63() - r.Int63()
		}
		maps.DeleteFunc(once, func(key string, n int64) bool { return len(key) > 4096 })
		all := inOrder(once)
		for part := range slices.Chunk(all, 1+r.Intn(40)) {
			adds(t, b, api.OK, part...)
		}
		for _, i := range r.Perm(len(all)) {
			byPut.Put(all[i].Key, all[i].N)
		}
		byBulk := done(t, b, fan, all...)
		copied := byBulk.Copy()
		for range 400 {
			asked(t, r, byBulk, byPut)
			flat(t, "behind any call", byBulk, fan)
		}
		has(t, "behind any calls", byBulk, fan, byPut.Range("", "", 5000)...)
		has(t, "a copy ahead of them", copied, fan, all...)
	}
}

// asked calls two trees alike.
func asked(t *testing.T, r *rand.Rand, x, y *tree.Tree) {
	t.Helper()
	key, to, n := anyKey(r), anyKey(r), r.Int63n(20)-2
	does := func(z *tree.Tree, kind int) string {
		switch kind {
		case 0, 1:
			return fmt.Sprint(z.Put(key, n))
		case 2, 3:
			return fmt.Sprint(z.Delete(key))
		case 4:
			return fmt.Sprint(z.Get(key))
		case 5:
			return fmt.Sprint(z.At(key))
		case 6:
			return fmt.Sprint(z.Before(key))
		}
		return fmt.Sprint(z.Range(key, to, int(n)), z.Len())
	}
	kind := r.Intn(8)
	if got, want := does(x, kind), does(y, kind); got != want {
		t.Fatalf("call %d of %s, %s, %d:\n%s; want\n%s", kind, short(key), short(to), n, got, want)
	}
}
