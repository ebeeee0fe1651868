package bulk

import (
	"fmt"
	"math"
	"slices"
	"strings"
	"testing"
	"unsafe"

	"hedgerow/api"
	"hedgerow/tree"
)

// fans: all that a tree may have.
func fans() []int {
	var l []int
	for fan := 3; fan <= 64; fan++ {
		l = append(l, fan)
	}
	return l
}

// fewFans: the bounds, those beside them, and others.
func fewFans() []int { return []int{3, 4, 5, 6, 7, 16, 63, 64} }

func fresh(t *testing.T, fan int) *Bulk {
	t.Helper()
	b, err := New(fan)
	if err != api.OK || b == nil {
		t.Fatalf("New(%d): bulk %v, error %d", fan, b != nil, err)
	}
	return b
}

// of is a Bulk to which keys were added in one list, with the numbers 1, 2, ..
func of(t *testing.T, fan int, keys ...string) *Bulk {
	t.Helper()
	b := fresh(t, fan)
	adds(t, b, api.OK, keyed(keys...)...)
	return b
}

func keyed(keys ...string) []tree.Entry {
	var l []tree.Entry
	for i, key := range keys {
		l = append(l, tree.Entry{Key: key, N: int64(i + 1)})
	}
	return l
}

// name: keys that stand in the order of their numbers.
func name(n int) string { return fmt.Sprintf("k%05d", n) }

// named is the keys of the numbers from one up to, but without, another.
func named(from, end int) []tree.Entry {
	var l []tree.Entry
	for i := from; i < end; i++ {
		l = append(l, tree.Entry{Key: name(i), N: int64(i)})
	}
	return l
}

// full is a Bulk of as many keys as it may have.
func full(t *testing.T, fan int) *Bulk {
	t.Helper()
	b := fresh(t, fan)
	adds(t, b, api.OK, named(0, 4096)...)
	tells(t, b, 4096, name(4095), true)
	return b
}

// short: keys that can be read.
func short(s string) string {
	if len(s) < 12 {
		return fmt.Sprintf("%q", s)
	}
	return fmt.Sprintf("%.8q by %d", s, len(s))
}

func shorts(l []tree.Entry) string {
	var s strings.Builder
	for i, e := range l {
		if i == 20 {
			return fmt.Sprintf("%s.. %d in all", s.String(), len(l))
		}
		fmt.Fprintf(&s, "%s %d, ", short(e.Key), e.N)
	}
	return s.String()
}

func adds(t *testing.T, b *Bulk, want api.Errno, l ...tree.Entry) {
	t.Helper()
	if err := b.Add(l); err != want {
		t.Errorf("Add(%s): error %d; want %d", shorts(l), err, want)
	}
}

// tells holds Len and Last.
func tells(t *testing.T, b *Bulk, size int, last string, wantOk bool) {
	t.Helper()
	if n := b.Len(); n != size {
		t.Errorf("Len %d; want %d", n, size)
	}
	if s, ok := b.Last(); s != last || ok != wantOk {
		t.Errorf("Last: %s, %v; want %s, %v", short(s), ok, short(last), wantOk)
	}
}

// refused: an error that leaves Len and Last as they were.
func refused(t *testing.T, b *Bulk, want api.Errno, l ...tree.Entry) {
	t.Helper()
	size := b.Len()
	last, ok := b.Last()
	adds(t, b, want, l...)
	tells(t, b, size, last, ok)
}

// done is the tree that Done tells, which must have just these keys.
func done(t *testing.T, b *Bulk, fan int, want ...tree.Entry) *tree.Tree {
	t.Helper()
	x, err := b.Done()
	if err != api.OK || x == nil {
		t.Fatalf("Done: tree %v, error %d", x != nil, err)
	}
	has(t, "Done's tree", x, fan, want...)
	return x
}

// isDone: the calls of a Bulk behind Done.
func isDone(t *testing.T, b *Bulk) {
	t.Helper()
	for range 2 {
		if x, err := b.Done(); x != nil || err != api.ErrArg {
			t.Errorf("Done behind Done: tree %v, error %d; want none, error %d", x != nil, err, api.ErrArg)
		}
		refused(t, b, api.ErrArg)
		refused(t, b, api.ErrArg, tree.Entry{})
		refused(t, b, api.ErrArg, keyed("\xff\xff", "\xff\xff\xff")...)
	}
}

// has holds all that a tree tells of itself against its keys.
func has(t *testing.T, why any, x *tree.Tree, fan int, want ...tree.Entry) {
	t.Helper()
	if l := x.Range("", "", math.MaxInt); !slices.Equal(l, want) {
		t.Fatalf("%v: fan %d:\n%s; want\n%s", why, fan, shorts(l), shorts(want))
	}
	if n := x.Len(); n != len(want) {
		t.Fatalf("%v: fan %d: Len %d; want %d", why, fan, n, len(want))
	}
	flat(t, why, x, fan)
}

// flat: the tree is no deeper than the chapter of tree has it.
func flat(t *testing.T, why any, x *tree.Tree, fan int) {
	t.Helper()
	if d, most := x.Depth(), deepest(x.Len(), fan); d > most || (d == 0) != (x.Len() == 0) {
		t.Fatalf("%v: fan %d, %d keys: Depth %d; at most %d", why, fan, x.Len(), d, most)
	}
}

// deepest is how deep n keys may stand, by the chapter of tree.
func deepest(n, fan int) int {
	if n == 0 {
		return 0
	}
	h := (fan + 1) / 2
	d, power := 0, 1
	for 2*power*h <= n+1 {
		power *= h
		d++
	}
	return 1 + d
}

func TestP11_1New(t *testing.T) {
	table := map[int]api.Errno{
		math.MinInt: api.ErrArg, math.MinInt64 + 3: api.ErrArg, -64: api.ErrArg, -3: api.ErrArg, -1: api.ErrArg,
		0: api.ErrArg, 1: api.ErrArg, 2: api.ErrArg, 3: api.OK, 4: api.OK, 5: api.OK, 63: api.OK, 64: api.OK,
		65: api.ErrArg, 128: api.ErrArg, 1<<32 + 3: api.ErrArg, math.MaxInt: api.ErrArg,
	}
	for fan := -300; fan <= 300; fan++ {
		_, err := tree.New(fan)
		table[fan] = err
	}
	for fan, want := range table {
		if b, err := New(fan); err != want || (b != nil) != (want == api.OK) {
			t.Errorf("New(%d): bulk %v, error %d; want error %d", fan, b != nil, err, want)
		}
	}
}

func TestP11_1NothingSoFar(t *testing.T) {
	for _, fan := range fans() {
		b := fresh(t, fan)
		tells(t, b, 0, "", false)
		adds(t, b, api.OK)
		adds(t, b, api.OK, []tree.Entry{}...)
		tells(t, b, 0, "", false)
		done(t, b, fan)
		tells(t, b, 0, "", false)
		isDone(t, b)
		tells(t, b, 0, "", false)
	}
}

func TestP11_1BulksAreApart(t *testing.T) {
	a, b, c := fresh(t, 3), fresh(t, 3), fresh(t, 3)
	adds(t, a, api.OK, keyed("m", "n")...)
	tells(t, b, 0, "", false)
	adds(t, b, api.OK, keyed("a")...)
	tells(t, a, 2, "n", true)
	x := done(t, a, 3, keyed("m", "n")...)
	adds(t, b, api.OK, keyed("b")...)
	tells(t, c, 0, "", false)
	done(t, b, 3, tree.Entry{Key: "a", N: 1}, tree.Entry{Key: "b", N: 1})
	done(t, c, 3)
	has(t, "the first one's", x, 3, keyed("m", "n")...)
}

func TestP11_1Nil(t *testing.T) {
	var b *Bulk
	long := strings.Repeat("x", 4097)
	for range 2 {
		for _, l := range [][]tree.Entry{nil, {}, keyed(""), keyed("a", "b"), keyed("b", "a"), keyed(long), named(0, 4097)} {
			adds(t, b, api.ErrArg, l...)
			tells(t, b, 0, "", false)
		}
		if x, err := b.Done(); x != nil || err != api.ErrArg {
			t.Errorf("Done of nil: tree %v, error %d", x != nil, err)
		}
	}
}

func TestP11_1Example(t *testing.T) {
	b := fresh(t, 3)
	adds(t, b, api.OK, tree.Entry{Key: "a", N: 1})
	refused(t, b, api.ErrOrder, tree.Entry{Key: "a", N: 2})
	done(t, b, 3, tree.Entry{Key: "a", N: 1})
}

func TestP11_1LongKeys(t *testing.T) {
	for _, fan := range fewFans() {
		b := fresh(t, fan)
		var want []tree.Entry
		for _, n := range []int{0, 1, 2, 1000, 4095, 4096} {
			e := tree.Entry{Key: strings.Repeat("x", n), N: int64(n)}
			for _, longer := range []int{4097, 4098, 8192, 1 << 20} {
				for _, c := range []string{"x", "\x00", "\xff"} {
					long := tree.Entry{Key: strings.Repeat(c, longer), N: 1}
					refused(t, b, api.ErrLong, long)
					refused(t, b, api.ErrLong, e, long)
					refused(t, b, api.ErrLong, long, e)
					refused(t, b, api.ErrLong, e, long, tree.Entry{Key: "y"})
				}
			}
			adds(t, b, api.OK, e)
			want = append(want, e)
			tells(t, b, len(want), e.Key, true)
		}
		done(t, b, fan, want...)
	}
}

func TestP11_1Order(t *testing.T) {
	long := strings.Repeat("n", 4096)
	for _, fan := range fewFans() {
		b := of(t, fan, "b", "n")
		for _, keys := range [][]string{
			{"n"}, {"m"}, {"b"}, {"a"}, {""}, {"mzz"}, {"\x00"}, {"N"}, {strings.Repeat("m", 4096)},
			{"n", "o"}, {"m", "o"}, {"", "o"}, // the first one alone is wrong
			{"o", "o"}, {"o", "n"}, {"o", "m"}, {"o", ""}, {"o", "p", "p"}, {"o", "p", "o"}, {"o", "p", "n"}, // the last one alone
			{"o", "o", "p"}, {"o", "n", "p"}, {"q", "p", "r"}, {"o", "a", "z"}, // one between
			{"z", "y", "x"}, {"", ""}, {"n", "n"},
			{"n\x00", "n"}, {"n\x00", "n\x00"}, {long, "nn"}, {long, long},
		} {
			refused(t, b, api.ErrOrder, keyed(keys...)...)
		}
		// What an error left out may come now.
		adds(t, b, api.OK, keyed("n\x00", "na", "nn", long, "o", "p")...)
		tells(t, b, 8, "p", true)
		done(t, b, fan, tree.Entry{Key: "b", N: 1}, tree.Entry{Key: "n", N: 2}, tree.Entry{Key: "n\x00", N: 1}, tree.Entry{Key: "na", N: 2},
			tree.Entry{Key: "nn", N: 3}, tree.Entry{Key: long, N: 4}, tree.Entry{Key: "o", N: 5}, tree.Entry{Key: "p", N: 6})
	}
}

func TestP11_1TheFirstListHasAnOrderToo(t *testing.T) {
	for _, keys := range [][]string{{"", ""}, {"a", ""}, {"a", "a"}, {"b", "a"}, {"a", "b", "b"}, {"a", "c", "b"}, {"b", "a", "c"}} {
		b := fresh(t, 3)
		refused(t, b, api.ErrOrder, keyed(keys...)...)
		tells(t, b, 0, "", false)
		// Nothing was added, so any key may be the first.
		adds(t, b, api.OK, keyed("")...)
		tells(t, b, 1, "", true)
		done(t, b, 3, keyed("")...)
	}
}

func TestP11_1OnlyTheLastEntryIsWrong(t *testing.T) {
	for _, fan := range fewFans() {
		for _, n := range []int{0, 1, 2, 50, 2000} {
			b := of(t, fan, "a")
			l := named(0, n)
			for _, wrong := range []string{"", "a", name(n - 1), name(n - 1)[:5], "b"} {
				if n > 0 || wrong <= "a" {
					refused(t, b, api.ErrOrder, append(slices.Clone(l), tree.Entry{Key: wrong})...)
				}
			}
			for _, c := range []string{"z", "a", "\x00"} {
				refused(t, b, api.ErrLong, append(slices.Clone(l), tree.Entry{Key: strings.Repeat(c, 4097)})...)
			}
			adds(t, b, api.OK, l...)
			done(t, b, fan, append(keyed("a"), l...)...)
		}
		b := of(t, fan, "a")
		refused(t, b, api.ErrMany, named(0, 4096)...)
		adds(t, b, api.OK, named(0, 4095)...)
		done(t, b, fan, append(keyed("a"), named(0, 4095)...)...)
	}
}

func TestP11_1TheEmptyKeyIsAKey(t *testing.T) {
	for _, fan := range fewFans() {
		b := fresh(t, fan)
		adds(t, b, api.OK, tree.Entry{N: 5})
		tells(t, b, 1, "", true)
		refused(t, b, api.ErrOrder, tree.Entry{N: 6})
		refused(t, b, api.ErrOrder, tree.Entry{N: 6}, tree.Entry{Key: "a"})
		adds(t, b, api.OK)
		tells(t, b, 1, "", true)
		adds(t, b, api.OK, tree.Entry{Key: "\x00", N: 7})
		tells(t, b, 2, "\x00", true)
		refused(t, b, api.ErrOrder, tree.Entry{N: 8})
		done(t, b, fan, tree.Entry{N: 5}, tree.Entry{Key: "\x00", N: 7})

		b = fresh(t, fan)
		adds(t, b, api.OK, keyed("", "a")...)
		tells(t, b, 2, "a", true)
		done(t, b, fan, keyed("", "a")...)
		b = of(t, fan, "a")
		refused(t, b, api.ErrOrder, keyed("")...)
		refused(t, b, api.ErrOrder, keyed("b", "")...)
	}
}

func TestP11_1KeysOfAnyBytes(t *testing.T) {
	keys := anyKeys()
	for _, fan := range fewFans() {
		b := fresh(t, fan)
		var want []tree.Entry
		for i, key := range keys {
			e := tree.Entry{Key: key, N: int64(-i)}
			for _, lower := range keys[:i] {
				if b.Add([]tree.Entry{{Key: lower}}) != api.ErrOrder {
					t.Fatalf("Add(%s) behind %s", short(lower), short(keys[i-1]))
				}
				if b.Add([]tree.Entry{e, {Key: lower}}) != api.ErrOrder {
					t.Fatalf("Add(%s, %s)", short(key), short(lower))
				}
			}
			adds(t, b, api.OK, e)
			tells(t, b, i+1, key, true)
			want = append(want, e)
		}
		x := done(t, b, fan, want...)
		for _, e := range want {
			if n, ok := x.Get(e.Key); n != e.N || !ok {
				t.Errorf("Get(%s): %d, %v; want %d", short(e.Key), n, ok, e.N)
			}
		}
		for _, key := range []string{"\x00a\x01", "ab\x00", "bb\x01", "\xff\xff\xfd", "日"} {
			if n, ok := x.Get(key); n != 0 || ok {
				t.Errorf("Get(%s): %d, %v", short(key), n, ok)
			}
		}
		whole := fresh(t, fan)
		adds(t, whole, api.OK, want...)
		tells(t, whole, len(want), keys[len(keys)-1], true)
		done(t, whole, fan, want...)
	}
}

// anyKeys, rising: all texts of up to three of these bytes, so that each begins
// others, and the longest.
func anyKeys() []string {
	var keys []string
	for _, a := range []string{"", "\x00", "\x01", "a", "\x7f", "\x80", "\xff"} {
		for _, b := range []string{"", "\x00", "a", "\xff"} {
			for _, c := range []string{"", "\x00", "b", "\xfe", "\xff"} {
				keys = append(keys, a+b+c)
			}
		}
	}
	keys = append(keys, strings.Repeat("\x00", 4096), strings.Repeat("\xff", 4096), "é", "日本", "\xe6\x97", strings.Repeat("\xff", 4095)+"\xfe")
	slices.Sort(keys)
	return slices.Compact(keys)
}

func TestP11_1AnyNumber(t *testing.T) {
	numbers := []int64{0, 1, -1, 4096, -4096, math.MaxInt64, math.MinInt64, math.MaxInt64 - 1, math.MinInt64 + 1, 1 << 32, 1<<62 - 1, 0, math.MinInt64}
	var l []tree.Entry
	for i, n := range numbers {
		l = append(l, tree.Entry{Key: name(i), N: n})
	}
	for _, fan := range fewFans() {
		for size := 1; size <= len(l); size++ {
			b := fresh(t, fan)
			for part := range slices.Chunk(l, size) {
				adds(t, b, api.OK, part...)
			}
			done(t, b, fan, l...)
		}
	}
}

func TestP11_1ManyKeys(t *testing.T) {
	all, others := named(0, 4096), named(5000, 15000)
	for _, fan := range []int{3, 4, 5, 63, 64} {
		for _, size := range []int{1, 2, 7, 1000, 4095, 4096} {
			b := fresh(t, fan)
			for part := range slices.Chunk(all, size) {
				// What is one too many now is refused, all of it.
				left := 4096 - b.Len()
				refused(t, b, api.ErrMany, others[:left+1]...)
				adds(t, b, api.OK, part...)
			}
			tells(t, b, 4096, name(4095), true)
			refused(t, b, api.ErrMany, tree.Entry{Key: "l"})
			refused(t, b, api.ErrMany, keyed("l", "m")...)
			refused(t, b, api.ErrMany, others...)
			refused(t, b, api.ErrOrder, tree.Entry{Key: name(4095)})
			refused(t, b, api.ErrOrder, tree.Entry{})
			adds(t, b, api.OK)
			adds(t, b, api.OK, []tree.Entry{}...)
			tells(t, b, 4096, name(4095), true)
			done(t, b, fan, all...)
			isDone(t, b)
		}
		b := fresh(t, fan)
		refused(t, b, api.ErrMany, others[:4097]...)
		refused(t, b, api.ErrMany, others...)
		adds(t, b, api.OK, all...)
		done(t, b, fan, all...)
	}
}

func TestP11_1WhichErrorIsTold(t *testing.T) {
	long := tree.Entry{Key: strings.Repeat("x", 4097)}
	low := tree.Entry{Key: ""}
	high := tree.Entry{Key: "z"}
	b := of(t, 4, "a")
	// Beside each other, in any order of the entries.
	refused(t, b, api.ErrLong, long, low)
	refused(t, b, api.ErrLong, low, long)
	refused(t, b, api.ErrLong, high, high, long)
	refused(t, b, api.ErrLong, long, high, high)
	refused(t, b, api.ErrLong, long, long)
	refused(t, b, api.ErrLong, append([]tree.Entry{long}, named(0, 5000)...)...)
	refused(t, b, api.ErrLong, append(named(0, 5000), long)...)
	refused(t, b, api.ErrLong, append(append([]tree.Entry{low}, named(0, 5000)...), long)...)
	refused(t, b, api.ErrLong, append(named(0, 5000), low, long)...)
	refused(t, b, api.ErrOrder, append([]tree.Entry{low}, named(0, 5000)...)...)
	refused(t, b, api.ErrOrder, append(named(0, 5000), low)...)
	refused(t, b, api.ErrOrder, append(named(0, 5000), named(4999, 5000)...)...)
	refused(t, b, api.ErrMany, named(0, 5000)...)

	f := full(t, 4)
	refused(t, f, api.ErrLong, long)
	refused(t, f, api.ErrLong, high, long)
	refused(t, f, api.ErrOrder, low)
	refused(t, f, api.ErrOrder, high, high)
	refused(t, f, api.ErrMany, high)

	for _, c := range []*Bulk{b, f} {
		if _, err := c.Done(); err != api.OK {
			t.Fatalf("Done: error %d", err)
		}
		refused(t, c, api.ErrArg)
		refused(t, c, api.ErrArg, long)
		refused(t, c, api.ErrArg, low)
		refused(t, c, api.ErrArg, high)
		refused(t, c, api.ErrArg, low, long)
		refused(t, c, api.ErrArg, named(0, 5000)...)
	}
}

func TestP11_1LenAndLastBehindEachCall(t *testing.T) {
	others := named(10000, 15000)
	for _, fan := range fewFans() {
		for _, size := range []int{1, 2, 3, 10} {
			b := fresh(t, fan)
			n := 0
			for part := range slices.Chunk(named(0, 200), size) {
				adds(t, b, api.OK, part...)
				n += len(part)
				last := part[len(part)-1].Key
				for range 2 {
					tells(t, b, n, last, true)
				}
				adds(t, b, api.OK)
				tells(t, b, n, last, true)
				refused(t, b, api.ErrOrder, part...)
				refused(t, b, api.ErrOrder, tree.Entry{Key: last + "x"}, tree.Entry{Key: last})
				refused(t, b, api.ErrLong, tree.Entry{Key: last + "x"}, tree.Entry{Key: strings.Repeat("z", 4097)})
				refused(t, b, api.ErrMany, others...)
			}
		}
	}
}

func TestP11_1DoneIsDoneOnce(t *testing.T) {
	for _, fan := range fewFans() {
		for _, n := range []int{0, 1, 2, 3, 100, 4096} {
			b := fresh(t, fan)
			adds(t, b, api.OK, named(0, n)...)
			last, ok := b.Last()
			x := done(t, b, fan, named(0, n)...)
			tells(t, b, n, last, ok)
			isDone(t, b)
			has(t, "behind a second Done and Add", x, fan, named(0, n)...)
			tells(t, b, n, last, ok)
		}
	}
}

func TestP11_1TheTreeIsTheCallers(t *testing.T) {
	for _, fan := range fewFans() {
		b := of(t, fan, "a", "b", "c")
		x := done(t, b, fan, keyed("a", "b", "c")...)
		for _, key := range []string{"d", "e", "", "f"} {
			if added, err := x.Put(key, 9); !added || err != api.OK {
				t.Errorf("Put(%q): %v, error %d", key, added, err)
			}
			tells(t, b, 3, "c", true)
		}
		for _, key := range []string{"c", "b", "a", "f", "", "e", "d"} {
			if !x.Delete(key) {
				t.Errorf("Delete(%q): false", key)
			}
			tells(t, b, 3, "c", true)
			isDone(t, b)
		}
		has(t, "all deleted", x, fan)
	}
}

func TestP11_1WhatIsHandedInIsNotChanged(t *testing.T) {
	for _, fan := range []int{3, 64} {
		for _, wrong := range []string{"z", "", strings.Repeat("z", 4097)} {
			b := of(t, fan, "a")
			room := append(named(0, 40), tree.Entry{Key: wrong, N: -1})
			room = append(room, keyed("spare", "room", "is", "the", "callers")...)
			was := slices.Clone(room)
			b.Add(room[:41])
			b.Add(room[:0])
			b.Done()
			b.Add(room[:41])
			if !slices.Equal(room, was) {
				t.Errorf("fan %d, %s: Add changed its list:\n%s; want\n%s", fan, short(wrong), shorts(room), shorts(was))
			}
		}
	}
}

func TestP11_1WhatIsHandedInIsNotKept(t *testing.T) {
	for _, fan := range []int{3, 64} {
		// One list, and one memory for all keys: the caller changes both behind each Add.
		text := []byte(name(0))
		l := make([]tree.Entry, 1, 8)
		b := fresh(t, fan)
		for i := range 60 {
			copy(text, name(i))
			l[0] = tree.Entry{Key: unsafe.String(&text[0], len(text)), N: int64(i)}
			adds(t, b, api.OK, l...)
			copy(text, "zzzzzz")
			l[0] = tree.Entry{Key: "changed", N: -1}
			tells(t, b, i+1, name(i), true)
			refused(t, b, api.ErrOrder, named(i, i+1)...)
		}
		x := done(t, b, fan, named(0, 60)...)
		clear(l[:cap(l)])
		has(t, "a list changed by the caller", x, fan, named(0, 60)...)
		tells(t, b, 60, name(59), true)
	}
}

func TestP11_1LastIsNewMemory(t *testing.T) {
	l := keyed("first", "second")
	b := fresh(t, 3)
	adds(t, b, api.OK, l...)
	x := done(t, b, 3, l...)
	seen := map[*byte]bool{unsafe.StringData(l[1].Key): true, unsafe.StringData(x.Range("second", "", 1)[0].Key): true}
	for range 3 {
		last, _ := b.Last()
		if p := unsafe.StringData(last); seen[p] {
			t.Errorf("Last shares memory with an argument, or another answer")
		} else {
			seen[p] = true
		}
	}
}
