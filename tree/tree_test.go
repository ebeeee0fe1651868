package tree

import (
	"fmt"
	"math"
	"slices"
	"strings"
	"testing"
	"unsafe"

	"hedgerow/api"
)

// fans: all that a tree may have.
func fans() []int {
	var l []int
	for fan := 3; fan <= 64; fan++ {
		l = append(l, fan)
	}
	return l
}

// fewFans: the bounds, those beside them, and others.
func fewFans() []int { return []int{3, 4, 5, 6, 7, 16, 63, 64} }

func fresh(t *testing.T, fan int) *Tree {
	t.Helper()
	x, err := New(fan)
	if err != api.OK || x == nil {
		t.Fatalf("New(%d): tree %v, error %d", fan, x != nil, err)
	}
	return x
}

// of is a tree of keys that were put in their order here, with the numbers 1, 2, ..
func of(t *testing.T, fan int, keys ...string) *Tree {
	t.Helper()
	x := fresh(t, fan)
	for i, key := range keys {
		puts(t, x, key, int64(i+1), true, api.OK)
	}
	return x
}

// name: keys that stand in the order of their numbers.
func name(n int) string { return fmt.Sprintf("k%05d", n) }

func names(n int) []string {
	var l []string
	for i := range n {
		l = append(l, name(i))
	}
	return l
}

// full is a tree of as many keys as it may have.
func full(t *testing.T, fan int) *Tree {
	t.Helper()
	x := of(t, fan, names(api.MaxKeys)...)
	if x.Len() != 4096 {
		t.Fatalf("Len %d; want 4096", x.Len())
	}
	return x
}

// short: a key that can be read.
func short(s string) string {
	if len(s) < 12 {
		return fmt.Sprintf("%q", s)
	}
	return fmt.Sprintf("%.8q by %d", s, len(s))
}

func puts(t *testing.T, x *Tree, key string, n int64, want bool, wantErr api.Errno) {
	t.Helper()
	if added, err := x.Put(key, n); added != want || err != wantErr {
		t.Errorf("Put(%s, %d): %v, error %d; want %v, error %d", short(key), n, added, err, want, wantErr)
	}
}

func deletes(t *testing.T, x *Tree, key string, want bool) {
	t.Helper()
	if was := x.Delete(key); was != want {
		t.Errorf("Delete(%s): %v; want %v", short(key), was, want)
	}
}

func gets(t *testing.T, x *Tree, key string, want int64, wantOk bool) {
	t.Helper()
	if n, ok := x.Get(key); n != want || ok != wantOk {
		t.Errorf("Get(%s): %d, %v; want %d, %v", short(key), n, ok, want, wantOk)
	}
}

func tellsAt(t *testing.T, x *Tree, key, want string, wantN int64, wantOk bool) {
	t.Helper()
	if k, n, ok := x.At(key); k != want || n != wantN || ok != wantOk {
		t.Errorf("At(%s): %s, %d, %v; want %s, %d, %v", short(key), short(k), n, ok, short(want), wantN, wantOk)
	}
}

func tellsBefore(t *testing.T, x *Tree, key, want string, wantN int64, wantOk bool) {
	t.Helper()
	if k, n, ok := x.Before(key); k != want || n != wantN || ok != wantOk {
		t.Errorf("Before(%s): %s, %d, %v; want %s, %d, %v", short(key), short(k), n, ok, short(want), wantN, wantOk)
	}
}

func ranges(t *testing.T, x *Tree, from, to string, most int, want ...Entry) {
	t.Helper()
	if l := x.Range(from, to, most); !slices.Equal(l, want) {
		t.Errorf("Range(%s, %s, %d): %v; want %v", short(from), short(to), most, l, want)
	}
}

// has holds all that a tree tells of itself, and its nodes, against its keys.
func has(t *testing.T, why any, x *Tree, want ...Entry) {
	t.Helper()
	if l := x.Range("", "", math.MaxInt); !slices.Equal(l, want) {
		t.Fatalf("%v: %d keys\n%v; want\n%v", why, len(l), l, want)
	}
	if n := x.Len(); n != len(want) {
		t.Fatalf("%v: Len %d; want %d", why, n, len(want))
	}
	sound(t, why, x)
}

// deepest is how deep n keys may stand, by the chapter's words.
func deepest(n, fan int) int {
	if n == 0 {
		return 0
	}
	h := (fan + 1) / 2
	d, power := 0, 1
	for 2*power*h <= n+1 {
		power *= h
		d++
	}
	return 1 + d
}

// sound: the tree is as deep as it tells and no deeper than it may be, all ends are
// equally deep, and no node has more kids than the fan or keys that are not in order.
func sound(t *testing.T, why any, x *Tree) {
	t.Helper()
	if got, most := x.Depth(), deepest(x.Len(), x.fan); got > most {
		t.Fatalf("%v: fan %d, %d keys: Depth %d; at most %d", why, x.fan, x.Len(), got, most)
	}
	if x.Len() == 0 {
		if x.Depth() != 0 || len(x.root.entries)+len(x.root.kids) != 0 {
			t.Fatalf("%v: no keys: Depth %d, %d entries, %d kids", why, x.Depth(), len(x.root.entries), len(x.root.kids))
		}
		return
	}
	var last *string
	all := 0
	var down func(n *node, depth int)
	down = func(n *node, depth int) {
		few := max((x.fan+1)/2-1, 1)
		if n == x.root {
			few = 1
		}
		switch k := len(n.kids); {
		case len(n.entries) < few || len(n.entries) > x.fan-1:
			t.Fatalf("%v: fan %d: a node of %d entries", why, x.fan, len(n.entries))
		case k != 0 && k != len(n.entries)+1:
			t.Fatalf("%v: fan %d: a node of %d entries and %d kids", why, x.fan, len(n.entries), k)
		case k == 0 && depth != x.Depth():
			t.Fatalf("%v: fan %d: Depth %d, an end at %d", why, x.fan, x.Depth(), depth)
		}
		for i := range len(n.entries) + 1 {
			if len(n.kids) > 0 {
				down(n.kids[i], depth+1)
			}
			if i == len(n.entries) {
				return
			}
			if last != nil && *last >= n.entries[i].Key {
				t.Fatalf("%v: fan %d: %q ahead of %q", why, x.fan, *last, n.entries[i].Key)
			}
			last = &n.entries[i].Key
			all++
		}
	}
	down(x.root, 1)
	if all != x.Len() {
		t.Fatalf("%v: fan %d: Len %d, but %d keys", why, x.fan, x.Len(), all)
	}
}

func TestP10_1New(t *testing.T) {
	table := map[int]api.Errno{
		math.MinInt: api.ErrArg, math.MinInt64 + 3: api.ErrArg, -64: api.ErrArg, -3: api.ErrArg, -1: api.ErrArg,
		0: api.ErrArg, 1: api.ErrArg, 2: api.ErrArg, 3: api.OK, 4: api.OK, 5: api.OK, 16: api.OK, 63: api.OK, 64: api.OK,
		65: api.ErrArg, 128: api.ErrArg, 1<<32 + 3: api.ErrArg, math.MaxInt: api.ErrArg,
	}
	for fan, want := range table {
		if x, err := New(fan); err != want || (x != nil) != (want == api.OK) {
			t.Errorf("New(%d): tree %v, error %d; want error %d", fan, x != nil, err, want)
		}
	}
	for fan := -300; fan <= 300; fan++ {
		if x, err := New(fan); (err == api.OK) != (fan >= 3 && fan <= 64) || (x != nil) != (err == api.OK) {
			t.Errorf("New(%d): tree %v, error %d", fan, x != nil, err)
		}
	}
}

func tellsNothing(t *testing.T, x *Tree) {
	t.Helper()
	for _, key := range []string{"", "a", "\x00", "\xff\xff", strings.Repeat("x", 4096), strings.Repeat("x", 4097)} {
		deletes(t, x, key, false)
		gets(t, x, key, 0, false)
		tellsAt(t, x, key, "", 0, false)
		tellsBefore(t, x, key, "", 0, false)
		ranges(t, x, key, "", 9)
		ranges(t, x, "", key, math.MaxInt)
		ranges(t, x, "", key, math.MinInt)
		ranges(t, x, key, key+"a", 1)
	}
	if x.Len() != 0 || x.Depth() != 0 {
		t.Errorf("Len %d, Depth %d; want 0, 0", x.Len(), x.Depth())
	}
}

func TestP10_1NoKeysAtFirst(t *testing.T) {
	for _, fan := range fans() {
		x := fresh(t, fan)
		tellsNothing(t, x)
		y := x.Copy()
		if y == nil || y == x {
			t.Fatalf("fan %d: Copy of a tree without keys: %v", fan, y)
		}
		tellsNothing(t, y)
		puts(t, y, "a", 1, true, api.OK)
		tellsNothing(t, x)
	}
}

func TestP10_1Nil(t *testing.T) {
	var x *Tree
	for _, key := range []string{"", "a", strings.Repeat("x", 4096), strings.Repeat("x", 4097)} {
		for _, n := range []int64{0, 1, -1, math.MaxInt64, math.MinInt64} {
			puts(t, x, key, n, false, api.ErrArg)
		}
	}
	tellsNothing(t, x)
	if y := x.Copy(); y != nil {
		t.Errorf("Copy of nil: %v", y)
	}
}

func TestP10_1TreesAreApart(t *testing.T) {
	x, y := fresh(t, 3), fresh(t, 3)
	for i := range 40 {
		puts(t, x, name(i), int64(i), true, api.OK)
		tellsNothing(t, y)
	}
	puts(t, y, "a", 7, true, api.OK)
	gets(t, x, "a", 0, false)
	deletes(t, y, name(3), false)
	gets(t, x, name(3), 3, true)
}

func TestP10_2PutKnowsMaxKey(t *testing.T) {
	for _, fan := range fewFans() {
		x := fresh(t, fan)
		var want []Entry
		for _, n := range []int{0, 1, 2, 1000, 4095, 4096} {
			key := strings.Repeat("x", n)
			puts(t, x, key, int64(n), true, api.OK)
			gets(t, x, key, int64(n), true)
			want = append(want, Entry{Key: key, N: int64(n)})
		}
		for _, n := range []int{4097, 4098, 8192, 1 << 20} {
			for _, c := range []string{"x", "\x00", "\xff"} {
				key := strings.Repeat(c, n)
				puts(t, x, key, 1, false, api.ErrLong)
				gets(t, x, key, 0, false)
				deletes(t, x, key, false)
			}
		}
		has(t, "behind ErrLong", x, want...)
	}
}

func TestP10_2KeysBeyondMaxKeyAreAskedAsAnyOther(t *testing.T) {
	x := of(t, 3, "", "w", strings.Repeat("x", 4096), "y")
	long := strings.Repeat("x", 4097)
	tellsAt(t, x, long, "y", 4, true)
	tellsBefore(t, x, long, strings.Repeat("x", 4096), 3, true)
	ranges(t, x, long, "", 9, Entry{"y", 4})
	ranges(t, x, "", long, 9, Entry{"", 1}, Entry{"w", 2}, Entry{strings.Repeat("x", 4096), 3})
	tellsAt(t, x, strings.Repeat("y", 5000), "", 0, false)
}

func TestP10_2AnyNumber(t *testing.T) {
	numbers := []int64{0, 1, -1, 4096, -4096, math.MaxInt64, math.MinInt64, math.MaxInt64 - 1, math.MinInt64 + 1, 1 << 32, 1<<62 - 1}
	for _, fan := range fewFans() {
		x := fresh(t, fan)
		for i, n := range numbers {
			puts(t, x, name(i), n, true, api.OK)
		}
		for i, n := range numbers {
			gets(t, x, name(i), n, true)
			tellsAt(t, x, name(i), name(i), n, true)
			tellsBefore(t, x, name(i)+"x", name(i), n, true)
			ranges(t, x, name(i), "", 1, Entry{name(i), n})
		}
	}
}

func TestP10_2AKeyPutAnew(t *testing.T) {
	for _, fan := range fewFans() {
		x := of(t, fan, names(60)...)
		var want []Entry
		for i := range 60 {
			want = append(want, Entry{name(i), int64(i + 1)})
		}
		for i := range 60 {
			for _, n := range []int64{-5, 0, int64(i + 100), int64(i + 100)} {
				puts(t, x, name(i), n, false, api.OK)
				want[i].N = n
				has(t, "put anew", x, want...)
				gets(t, x, name(i), n, true)
			}
		}
	}
}

func TestP10_2KeysOfAnyBytes(t *testing.T) {
	// All texts of up to three of these bytes: each begins others.
	var keys []string
	for _, a := range []string{"", "\x00", "\x01", "a", "\x7f", "\x80", "\xff"} {
		for _, b := range []string{"", "\x00", "a", "\xff"} {
			for _, c := range []string{"", "\x00", "b", "\xfe", "\xff"} {
				keys = append(keys, a+b+c)
			}
		}
	}
	keys = append(keys, strings.Repeat("\x00", 4096), strings.Repeat("\xff", 4096), "é", "日本", "\xe6\x97", strings.Repeat("\xff", 4095)+"\xfe")
	slices.Sort(keys)
	keys = slices.Compact(keys)
	for _, fan := range fewFans() {
		for _, order := range orders(len(keys)) {
			x := fresh(t, fan)
			want := make([]Entry, len(keys))
			for _, i := range order {
				puts(t, x, keys[i], int64(i), true, api.OK)
				want[i] = Entry{keys[i], int64(i)}
			}
			has(t, "any bytes", x, want...)
			for i, key := range keys {
				gets(t, x, key, int64(i), true)
				tellsAt(t, x, key, key, int64(i), true)
				if i > 0 {
					tellsBefore(t, x, key, keys[i-1], int64(i-1), true)
				}
			}
			for _, key := range []string{"\x00a\x01", "ab\x00", "bb\x01", "\xff\xff\xfd", "日", "\x00\x00\x00\x01"} {
				gets(t, x, key, 0, false)
				deletes(t, x, key, false)
			}
		}
	}
}

func TestP10_2MaxKeys(t *testing.T) {
	for _, fan := range []int{3, 4, 5, 63, 64} {
		x := full(t, fan)
		sound(t, "full", x)
		for _, key := range []string{"", "a", name(7) + "x", "z"} {
			puts(t, x, key, 1, false, api.ErrMany)
			gets(t, x, key, 0, false)
		}
		puts(t, x, strings.Repeat("z", 4097), 1, false, api.ErrLong)
		puts(t, x, name(0), -1, false, api.OK)
		puts(t, x, name(2000), -2, false, api.OK)
		puts(t, x, name(4095), -3, false, api.OK)
		gets(t, x, name(2000), -2, true)
		if x.Len() != api.MaxKeys || len(x.Range("", "", 5000)) != api.MaxKeys {
			t.Errorf("fan %d: Len %d, %d keys", fan, x.Len(), len(x.Range("", "", 5000)))
		}
		y := x.Copy()
		puts(t, y, "new", 1, false, api.ErrMany)
		deletes(t, x, name(100), true)
		puts(t, y, "new", 1, false, api.ErrMany)
		puts(t, x, "new", 1, true, api.OK)
		puts(t, x, "newer", 1, false, api.ErrMany)
		puts(t, x, name(100), 1, false, api.ErrMany)
		sound(t, "full again", x)
	}
}

func TestP10_2WhichErrorIsTold(t *testing.T) {
	long := strings.Repeat("x", 4097)
	var none *Tree
	puts(t, none, long, 1, false, api.ErrArg)
	x := full(t, 64)
	puts(t, x, long, 1, false, api.ErrLong)
	puts(t, x, strings.Repeat("x", 4096), 1, false, api.ErrMany)
	puts(t, x, name(4), 1, false, api.OK)
}

func TestP10_2Delete(t *testing.T) {
	x := of(t, 3, "", "b", "d", "f", "h")
	for _, key := range []string{"a", "\x00", "c", "i", "bb", strings.Repeat("d", 4097)} {
		deletes(t, x, key, false)
	}
	has(t, "what is not there", x, Entry{"", 1}, Entry{"b", 2}, Entry{"d", 3}, Entry{"f", 4}, Entry{"h", 5})
	deletes(t, x, "d", true)
	deletes(t, x, "d", false)
	gets(t, x, "d", 0, false)
	has(t, "one", x, Entry{"", 1}, Entry{"b", 2}, Entry{"f", 4}, Entry{"h", 5})
	deletes(t, x, "", true)
	deletes(t, x, "", false)
	gets(t, x, "", 0, false)
	puts(t, x, "d", 9, true, api.OK)
	has(t, "put again", x, Entry{"b", 2}, Entry{"d", 9}, Entry{"f", 4}, Entry{"h", 5})
}

func TestP10_2AllDeletedAndPutAgain(t *testing.T) {
	const n = 130
	for _, fan := range []int{3, 4, 5, 6, 9, 64} {
		x := fresh(t, fan)
		for _, in := range orders(n) {
			for _, out := range orders(n) {
				for i, k := range in {
					puts(t, x, name(k), int64(k), true, api.OK)
					if x.Len() != i+1 {
						t.Fatalf("fan %d: Len %d; want %d", fan, x.Len(), i+1)
					}
				}
				sound(t, "all in", x)
				for i, k := range out {
					deletes(t, x, name(k), true)
					deletes(t, x, name(k), false)
					sound(t, "on the way out", x)
					if x.Len() != n-1-i {
						t.Fatalf("fan %d: Len %d; want %d", fan, x.Len(), n-1-i)
					}
				}
				tellsNothing(t, x)
			}
		}
	}
}

func TestP10_2AtAndBefore(t *testing.T) {
	for _, fan := range fewFans() {
		for _, n := range []int{1, 2, 3, 7, 50, 130} {
			x := fresh(t, fan)
			for i := range n {
				// Each second one, so that some lack between them.
				k := i * 7 % n
				if n%7 == 0 {
					k = i
				}
				puts(t, x, name(2*k+1), int64(k), true, api.OK)
			}
			tellsAt(t, x, "", name(1), 0, true)
			tellsBefore(t, x, "", "", 0, false)
			tellsAt(t, x, "z", "", 0, false)
			tellsBefore(t, x, "z", name(2*n-1), int64(n-1), true)
			tellsBefore(t, x, name(1), "", 0, false)
			for k := range n {
				tellsAt(t, x, name(2*k), name(2*k+1), int64(k), true)
				tellsAt(t, x, name(2*k+1), name(2*k+1), int64(k), true)
				tellsBefore(t, x, name(2*k+2), name(2*k+1), int64(k), true)
				if k > 0 {
					tellsBefore(t, x, name(2*k+1), name(2*k-1), int64(k-1), true)
				}
			}
			tellsAt(t, x, name(2*n), "", 0, false)
		}
	}
}

func TestP10_2TheEmptyKeyIsAKey(t *testing.T) {
	for _, fan := range fewFans() {
		x := of(t, fan, "b", "", "a")
		tellsAt(t, x, "", "", 2, true)
		tellsBefore(t, x, "", "", 0, false)
		tellsBefore(t, x, "\x00", "", 2, true)
		tellsBefore(t, x, "a", "", 2, true)
		gets(t, x, "", 2, true)
		ranges(t, x, "", "", 9, Entry{"", 2}, Entry{"a", 3}, Entry{"b", 1})
		ranges(t, x, "", "\x00", 9, Entry{"", 2})
		deletes(t, x, "", true)
		tellsAt(t, x, "", "a", 3, true)
	}
}

func TestP10_2Range(t *testing.T) {
	a, b, c, d, e := Entry{"a", 1}, Entry{"b", 2}, Entry{"c", 3}, Entry{"d", 4}, Entry{"e", 5}
	for _, fan := range fewFans() {
		x := of(t, fan, "a", "b", "c", "d", "e")
		ranges(t, x, "", "", 9, a, b, c, d, e)
		ranges(t, x, "a", "", 9, a, b, c, d, e)
		ranges(t, x, "aa", "", 9, b, c, d, e)
		ranges(t, x, "e", "", 9, e)
		ranges(t, x, "ee", "", 9)
		ranges(t, x, "z", "", 9)
		ranges(t, x, "", "a", 9)
		ranges(t, x, "", "aa", 9, a)
		ranges(t, x, "", "e", 9, a, b, c, d)
		ranges(t, x, "", "z", 9, a, b, c, d, e)
		ranges(t, x, "b", "d", 9, b, c)
		ranges(t, x, "bb", "dd", 9, c, d)
		ranges(t, x, "c", "c", 9)
		ranges(t, x, "cc", "cc", 9)
		ranges(t, x, "c", "c\x00", 9, c)
		ranges(t, x, "d", "b", 9)
		ranges(t, x, "dd", "bb", 9)
		ranges(t, x, "z", "a", 9)
		for _, most := range []int{0, -1, -5, math.MinInt} {
			ranges(t, x, "", "", most)
			ranges(t, x, "b", "d", most)
			ranges(t, x, "d", "b", most)
		}
		ranges(t, x, "", "", 1, a)
		ranges(t, x, "", "", 4, a, b, c, d)
		ranges(t, x, "", "", 5, a, b, c, d, e)
		ranges(t, x, "", "", 6, a, b, c, d, e)
		ranges(t, x, "b", "e", 1, b)
		ranges(t, x, "b", "e", 2, b, c)
		ranges(t, x, "b", "e", 3, b, c, d)
		ranges(t, x, "b", "e", 4, b, c, d)
		ranges(t, x, "b", "e", math.MaxInt, b, c, d)
	}
}

func TestP10_2EachRange(t *testing.T) {
	const n = 23
	for _, fan := range []int{3, 4, 5, 8, 64} {
		x := fresh(t, fan)
		var all []Entry
		for i := range n {
			puts(t, x, name(2*i+1), int64(i), true, api.OK)
			all = append(all, Entry{name(2*i + 1), int64(i)})
		}
		for from := range 2*n + 2 {
			for to := range 2*n + 2 {
				// The keys below 2*k are the first k.
				first, end := from/2, to/2
				var want []Entry
				if first < end {
					want = all[first:end]
				}
				for _, most := range []int{len(want) - 1, len(want), len(want) + 1} {
					ranges(t, x, name(from), name(to), most, want[:max(min(most, len(want)), 0)]...)
				}
			}
			ranges(t, x, name(from), "", n, all[from/2:]...)
			ranges(t, x, "", name(from), n, all[:from/2]...)
		}
	}
}

func TestP10_2TheListIsTheCallers(t *testing.T) {
	for _, fan := range []int{3, 64} {
		x := of(t, fan, names(50)...)
		want := x.Range("", "", 99)
		for _, most := range []int{1, 3, 33, 50, 99} {
			l := x.Range("", "", most)
			other := x.Range("", "", most)
			l = l[:cap(l)]
			for i := range l {
				l[i] = Entry{"changed", -1}
			}
			if !slices.Equal(other, want[:min(most, 50)]) {
				t.Errorf("fan %d: two lists share memory", fan)
			}
			has(t, "a list changed by the caller", x, want...)
		}
	}
}

func TestP10_2KeysAreNotKeptAndAreNewMemory(t *testing.T) {
	for _, fan := range []int{3, 64} {
		x := fresh(t, fan)
		b := []byte("k?")
		for i := range 40 {
			b[1] = byte(i)
			puts(t, x, unsafe.String(&b[0], len(b)), int64(i), true, api.OK)
			puts(t, x, unsafe.String(&b[0], len(b)), int64(i), false, api.OK)
		}
		b[0], b[1] = 'x', 'x'
		var want []Entry
		for i := range 40 {
			want = append(want, Entry{string([]byte{'k', byte(i)}), int64(i)})
		}
		has(t, "keys that the caller changed", x, want...)
		seen := map[*byte]bool{}
		own := func(key string) {
			t.Helper()
			if p := unsafe.StringData(key); seen[p] {
				t.Fatalf("fan %d: %q shares memory with another answer", fan, key)
			} else {
				seen[p] = true
			}
		}
		y := x.Copy()
		for range 2 {
			for _, z := range []*Tree{x, y} {
				at, _, _ := z.At("k")
				own(at)
				before, _, _ := z.Before("k\x01")
				own(before)
				for _, e := range z.Range("", "", 99) {
					own(e.Key)
				}
			}
		}
	}
}

func TestP10_2AnswersChangeNothing(t *testing.T) {
	for _, fan := range fewFans() {
		x := of(t, fan, names(70)...)
		want, depth := x.Range("", "", 99), x.Depth()
		for i := -1; i <= 71; i++ {
			for _, key := range []string{name(i), name(i) + "x", ""} {
				x.Get(key)
				x.At(key)
				x.Before(key)
				x.Range(key, "", 5)
				x.Range("", key, 500)
				x.Copy()
				x.Depth()
				x.Delete(key + "y")
			}
			has(t, "asked", x, want...)
			if x.Depth() != depth {
				t.Fatalf("fan %d: Depth %d; want %d", fan, x.Depth(), depth)
			}
		}
	}
}

func TestP10_2Copy(t *testing.T) {
	for _, fan := range fewFans() {
		for _, n := range []int{1, 2, 3, 20, 130} {
			x := of(t, fan, names(n)...)
			was, depth := x.Range("", "", 999), x.Depth()
			y, z := x.Copy(), x.Copy()
			has(t, "a copy", y, was...)
			if y == x || y == z || y.Depth() != depth || y.fan != fan {
				t.Errorf("fan %d, %d keys: Depth %d of a copy, fan %d; want %d", fan, n, y.Depth(), y.fan, depth)
			}
			// The tree is changed behind its copies ..
			for i := range n {
				puts(t, x, name(i), -7, false, api.OK)
				puts(t, x, name(i)+"x", 1, true, api.OK)
				if i%3 > 0 {
					deletes(t, x, name(i), true)
				}
			}
			has(t, "a copy of what was changed", y, was...)
			// .. and a copy behind its tree.
			changed := x.Range("", "", 999)
			for i := range n {
				deletes(t, y, name(i), true)
				puts(t, y, name(i)+"y", 2, true, api.OK)
			}
			has(t, "what was copied", x, changed...)
			has(t, "the other copy", z, was...)
		}
	}
}

func TestP10_2ACopyOfACopy(t *testing.T) {
	x := of(t, 3, "a", "b", "c")
	y := x.Copy()
	puts(t, y, "d", 4, true, api.OK)
	z := y.Copy()
	deletes(t, z, "a", true)
	puts(t, y, "b", 9, false, api.OK)
	has(t, "first", x, Entry{"a", 1}, Entry{"b", 2}, Entry{"c", 3})
	has(t, "second", y, Entry{"a", 1}, Entry{"b", 9}, Entry{"c", 3}, Entry{"d", 4})
	has(t, "third", z, Entry{"b", 2}, Entry{"c", 3}, Entry{"d", 4})
}

// orders: rising, falling, from both ends, from the middle on, and two without rule.
func orders(n int) [][]int {
	rising, falling, ends, middle, jumps, halves := []int{}, []int{}, []int{}, []int{}, []int{}, []int{}
	for i := range n {
		rising = append(rising, i)
		falling = append(falling, n-1-i)
		if i%2 == 0 {
			ends = append(ends, i/2)
			middle = append(middle, n/2+i/2)
		} else {
			ends = append(ends, n-1-i/2)
			middle = append(middle, n/2-1-i/2)
		}
	}
	for step := 1; step < 5; step++ {
		for i := range n {
			if i%4 == step-1 {
				jumps = append(jumps, n-1-i)
			}
		}
	}
	for size := n; size > 0; size /= 2 {
		for i := n/2 + size/2; i < n; i += size {
			if !slices.Contains(halves, i) {
				halves = append(halves, i)
			}
		}
	}
	for i := range n {
		if !slices.Contains(halves, i) {
			halves = append(halves, i)
		}
	}
	return [][]int{rising, falling, ends, middle, jumps, halves}
}

// TestOrders: each order has each number once, so that the tests that go by them
// reach all keys.
func TestOrders(t *testing.T) {
	for _, n := range []int{0, 1, 2, 3, 4, 7, 130, 131} {
		for i, order := range orders(n) {
			l := slices.Sorted(slices.Values(order))
			if len(l) != n || n > 0 && (l[0] != 0 || l[n-1] != n-1) || len(slices.Compact(l)) != n {
				t.Errorf("%d, order %d: %v", n, i, order)
			}
		}
	}
}

func TestP10_3DepthByHand(t *testing.T) {
	table := []struct{ fan, n, least, most int }{
		{3, 0, 0, 0}, {3, 1, 1, 1}, {3, 2, 1, 1}, {3, 3, 2, 2}, {3, 6, 2, 2}, {3, 7, 2, 3}, {3, 8, 2, 3}, {3, 9, 3, 3}, {3, 14, 3, 3}, {3, 15, 3, 4},
		{3, 4096, 8, 12},
		{4, 3, 1, 2}, {4, 4, 2, 2}, {4, 2, 1, 1}, {4, 7, 2, 3}, {4, 4096, 7, 12},
		{5, 4, 1, 1}, {5, 5, 2, 2}, {5, 16, 2, 2}, {5, 17, 2, 3}, {5, 53, 3, 4}, {5, 4096, 6, 7},
		{63, 62, 1, 1}, {63, 63, 2, 2}, {63, 2046, 2, 2}, {63, 2047, 2, 3}, {63, 4096, 3, 3},
		{64, 62, 1, 1}, {64, 63, 1, 2}, {64, 64, 2, 2}, {64, 2046, 2, 2}, {64, 2047, 2, 3}, {64, 4095, 2, 3}, {64, 4096, 3, 3},
	}
	for _, x := range table {
		if got := deepest(x.n, x.fan); got != x.most {
			t.Errorf("fan %d, %d keys: at most %d, as this test counts; want %d", x.fan, x.n, got, x.most)
		}
		for i, order := range orders(x.n) {
			y := fresh(t, x.fan)
			for _, k := range order {
				puts(t, y, name(k), 0, true, api.OK)
			}
			if got := y.Depth(); got < x.least || got > x.most {
				t.Errorf("fan %d, %d keys, order %d: Depth %d; want from %d to %d", x.fan, x.n, i, got, x.least, x.most)
			}
		}
	}
}

func TestP10_3DepthBehindEachCall(t *testing.T) {
	const n = 150
	for _, fan := range fans() {
		for i, in := range orders(n) {
			x := fresh(t, fan)
			for _, k := range in {
				puts(t, x, name(k), int64(k), true, api.OK)
				sound(t, fmt.Sprint("put in order ", i), x)
			}
			for j, out := range orders(n) {
				y := x.Copy()
				for _, k := range out {
					deletes(t, y, name(k), true)
					sound(t, fmt.Sprint("put in order ", i, ", deleted in order ", j), y)
				}
			}
		}
	}
}

func TestP10_3DepthOfMaxKeys(t *testing.T) {
	for _, fan := range []int{3, 4, 5, 63, 64} {
		for i, order := range orders(api.MaxKeys) {
			x := fresh(t, fan)
			for j, k := range order {
				puts(t, x, name(k), int64(k), true, api.OK)
				if j%37 == 0 {
					sound(t, fmt.Sprint("put in order ", i), x)
				}
			}
			sound(t, "full", x)
			// Half of all goes and comes again, then all goes.
			for j, k := range order {
				deletes(t, x, name(k), true)
				if j >= api.MaxKeys/2 {
					break
				}
			}
			sound(t, "half", x)
			for j, k := range order {
				puts(t, x, name(k), -1, j <= api.MaxKeys/2, api.OK)
			}
			sound(t, "full again", x)
			for j, k := range order {
				deletes(t, x, name(k), true)
				if d, most := x.Depth(), deepest(x.Len(), fan); d > most {
					t.Fatalf("fan %d, %d keys: Depth %d; at most %d", fan, x.Len(), d, most)
				}
				if j%37 == 0 {
					sound(t, fmt.Sprint("deleted in order ", i), x)
				}
			}
			tellsNothing(t, x)
		}
	}
}

func TestP10_4Example(t *testing.T) {
	for _, fan := range fewFans() {
		x := of(t, fan, "b", "a", "c")
		ranges(t, x, "", "", 9, Entry{"a", 2}, Entry{"b", 1}, Entry{"c", 3})
	}
}
