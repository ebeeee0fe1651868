package key

import (
	"math"
	"math/rand"
	"slices"
	"strings"
	"testing"
	"unsafe"

	"hedgerow/api"
	"hedgerow/val"
)

func boolean(n int64) api.Value { return api.Value{Kind: api.Bool, N: n} }
func integer(n int64) api.Value { return api.Value{Kind: api.Int, N: n} }
func text(s string) api.Value   { return api.Value{Kind: api.Text, S: s} }

func values(l ...api.Value) []api.Value { return l }

// zeros: a text whose bytes in a key are twice as many, and three more.
func zeros(n int) api.Value { return text(strings.Repeat("\x00", n)) }

// letters: a text whose bytes in a key are as many, and three more.
func letters(n int) api.Value { return text(strings.Repeat("x", n)) }

// keys: values beside their key, worked out by hand from the chapter.
var keys = []struct {
	name string
	l    []api.Value
	s    string
}{
	{"no values", nil, ""},
	{"None", values(api.Value{}), "\x00"},
	{"None thrice", values(api.Value{}, api.Value{}, api.Value{}), "\x00\x00\x00"},
	{"Bool 0", values(boolean(0)), "\x01\x00"},
	{"Bool 1", values(boolean(1)), "\x01\x01"},
	{"Int 0", values(integer(0)), "\x02\x80\x00\x00\x00\x00\x00\x00\x00"},
	{"Int 1", values(integer(1)), "\x02\x80\x00\x00\x00\x00\x00\x00\x01"},
	{"Int -1", values(integer(-1)), "\x02\x7f\xff\xff\xff\xff\xff\xff\xff"},
	{"Int -2", values(integer(-2)), "\x02\x7f\xff\xff\xff\xff\xff\xff\xfe"},
	{"Int 256", values(integer(256)), "\x02\x80\x00\x00\x00\x00\x00\x01\x00"},
	{"an Int of eight unlike bytes", values(integer(0x0123456789abcdef)), "\x02\x81\x23\x45\x67\x89\xab\xcd\xef"},
	{"one below 0", values(integer(-0x0123456789abcdef)), "\x02\x7e\xdc\xba\x98\x76\x54\x32\x11"},
	{"the greatest Int", values(integer(math.MaxInt64)), "\x02\xff\xff\xff\xff\xff\xff\xff\xff"},
	{"the least Int", values(integer(math.MinInt64)), "\x02\x00\x00\x00\x00\x00\x00\x00\x00"},
	{"an empty Text", values(text("")), "\x03\x00\x01"},
	{"a Text", values(text("oak")), "\x03oak\x00\x01"},
	{"a Text 00", values(text("\x00")), "\x03\x00\xff\x00\x01"},
	{"a Text ff", values(text("\xff")), "\x03\xff\x00\x01"},
	{"a Text 01", values(text("\x01")), "\x03\x01\x00\x01"},
	{"a Text 00 01, as a text ends", values(text("\x00\x01")), "\x03\x00\xff\x01\x00\x01"},
	{"a Text 00 ff, as a 00 is kept", values(text("\x00\xff")), "\x03\x00\xff\xff\x00\x01"},
	{"a Text with a 00 within", values(text("a\x00b")), "\x03a\x00\xffb\x00\x01"},
	{"a Text with 00 at both ends", values(text("\x00a\x00")), "\x03\x00\xffa\x00\xff\x00\x01"},
	{"a Text 00 00", values(text("\x00\x00")), "\x03\x00\xff\x00\xff\x00\x01"},
	{"a Text of MaxText bytes", values(letters(api.MaxText)), "\x03" + strings.Repeat("x", api.MaxText) + "\x00\x01"},
	{"a Text of MaxText bytes 00", values(zeros(api.MaxText)), "\x03" + strings.Repeat("\x00\xff", api.MaxText) + "\x00\x01"},
	{"each kind behind the other, rising", values(api.Value{}, boolean(1), integer(5), text("a")), "\x00\x01\x01\x02\x80\x00\x00\x00\x00\x00\x00\x05\x03a\x00\x01"},
	{"each kind behind the other, falling", values(text("a"), integer(5), boolean(0), api.Value{}), "\x03a\x00\x01\x02\x80\x00\x00\x00\x00\x00\x00\x05\x01\x00\x00"},
	{"Texts behind each other", values(text(""), text("\x01"), text("")), "\x03\x00\x01\x03\x01\x00\x01\x03\x00\x01"},
}

// bad: values that are neither good nor None with N 0 and no S.
var bad = []struct {
	name string
	v    api.Value
}{
	{"a Bool 2", boolean(2)},
	{"a Bool -1", boolean(-1)},
	{"a Bool 256, whose lowest byte is 0", boolean(256)},
	{"a Bool with an S", api.Value{Kind: api.Bool, S: "s"}},
	{"an Int with an S", api.Value{Kind: api.Int, N: 7, S: "s"}},
	{"a Text with an N", api.Value{Kind: api.Text, N: 1, S: "s"}},
	{"a Text of MaxText + 1 bytes", letters(api.MaxText + 1)},
	{"a Text of far more bytes", letters(1 << 20)},
	{"None with an N", api.Value{N: 1}},
	{"None with an N below 0", api.Value{N: -1}},
	{"None with an S", api.Value{S: "s"}},
	{"None with an S 00", api.Value{S: "\x00"}},
	{"kind 4", api.Value{Kind: 4}},
	{"kind -1", api.Value{Kind: -1}},
	{"kind 256, whose lowest byte is None's", api.Value{Kind: 256}},
	{"kind 258, whose lowest byte is Int's", api.Value{Kind: 258, N: 5}},
	{"the greatest kind", api.Value{Kind: math.MaxInt}},
	{"the least kind", api.Value{Kind: math.MinInt}},
}

func refusesToMake(t *testing.T, why string, want api.Errno, l ...api.Value) {
	t.Helper()
	if s, err := Make(l); s != "" || err != want {
		t.Errorf("%s: %x, %d; want error %d and no key", why, s, err, want)
	}
}

func refusesToSplit(t *testing.T, why, s string, want api.Errno) {
	t.Helper()
	if l, err := Split(s); len(l) != 0 || err != want {
		t.Errorf("%s: %v, %d; want error %d and no values", why, l, err, want)
	}
}

func TestP3_1MakeIsTheKey(t *testing.T) {
	for _, x := range keys {
		if s, err := Make(x.l); s != x.s || err != api.OK {
			t.Errorf("%s: %x, %d; want %x", x.name, s, err, x.s)
		}
	}
	if s, err := Make(values()); s != "" || err != api.OK {
		t.Errorf("an empty list: %x, %d", s, err)
	}
}

func TestP3_1MakeRefusesWhatIsNotGood(t *testing.T) {
	for _, x := range bad {
		refusesToMake(t, x.name, api.ErrForm, x.v)
		refusesToMake(t, x.name+" behind a good one", api.ErrForm, text("a"), x.v)
		refusesToMake(t, x.name+" ahead of a good one", api.ErrForm, x.v, integer(1))
		refusesToMake(t, x.name+" between two", api.ErrForm, api.Value{}, x.v, boolean(1))
	}
}

func TestP3_1MakeKnowsMaxKey(t *testing.T) {
	long := zeros(api.MaxText)
	for _, x := range []struct {
		name string
		l    []api.Value
		size int
	}{
		// The two ahead have 2051 and 1027 bytes.
		{"a Text last", values(long, letters(1024), letters(1015)), api.MaxKey},
		{"an Int last", values(long, letters(1024), letters(1006), integer(1)), api.MaxKey},
		{"None last", values(long, letters(1024), letters(1014), api.Value{}), api.MaxKey},
		{"Bool last", values(long, letters(1024), letters(1013), boolean(1)), api.MaxKey},
		{"a 00 that becomes two bytes", values(long, letters(1024), text(strings.Repeat("x", 1013)+"\x00")), api.MaxKey},
		{"None alone", make([]api.Value, api.MaxKey), api.MaxKey},
		{"one byte less", values(long, letters(1024), letters(1014)), api.MaxKey - 1},
	} {
		if s, err := Make(x.l); len(s) != x.size || err != api.OK {
			t.Errorf("%s: %d bytes, %d; want %d", x.name, len(s), err, x.size)
		}
		if x.size == api.MaxKey {
			refusesToMake(t, x.name+", and None behind it", api.ErrLong, append(slices.Clone(x.l), api.Value{})...)
			refusesToMake(t, x.name+", and a Text behind it", api.ErrLong, append(slices.Clone(x.l), long)...)
		}
	}
	refusesToMake(t, "a Text with one byte more", api.ErrLong, long, letters(1024), letters(1016))
	refusesToMake(t, "a 00 more, in a text as long", api.ErrLong, long, letters(1024), text(strings.Repeat("x", 1014)+"\x00"))
	refusesToMake(t, "a key that would be far too long", api.ErrLong, slices.Repeat(values(long), 1000)...)
	refusesToMake(t, "a small one behind one that is too much", api.ErrLong, long, long, api.Value{})
}

func TestP3_1MakeNamesErrFormFirst(t *testing.T) {
	long := slices.Repeat(values(zeros(api.MaxText)), 3)
	for _, x := range bad {
		refusesToMake(t, x.name+" behind too much", api.ErrForm, append(slices.Clone(long), x.v)...)
		refusesToMake(t, x.name+" ahead of too much", api.ErrForm, append(values(x.v), long...)...)
	}
}

func TestP3_1WhatIsHandedInStays(t *testing.T) {
	room := values(text("a\x00"), integer(-5), api.Value{}, boolean(1), text("spare"))
	was := slices.Clone(room)
	Make(room[:3])
	Make(room[:0])
	if !slices.Equal(room, was) {
		t.Error(room, was)
	}
}

func TestP3_2SplitIsTheValues(t *testing.T) {
	for _, x := range keys {
		if l, err := Split(x.s); !slices.Equal(l, x.l) || err != api.OK {
			t.Errorf("%s: %v, %d; want %v", x.name, l, err, x.l)
		}
	}
}

func TestP3_2SplitKnowsMaxKey(t *testing.T) {
	most := strings.Repeat("\x00", api.MaxKey)
	if l, err := Split(most); !slices.Equal(l, make([]api.Value, api.MaxKey)) || err != api.OK {
		t.Errorf("MaxKey bytes: %d values, %d", len(l), err)
	}
	refusesToSplit(t, "one byte more", most+"\x00", api.ErrLong)
	refusesToSplit(t, "far more", strings.Repeat("\x00", 1<<20), api.ErrLong)
	refusesToSplit(t, "one byte more, and none's key", most+"\x09", api.ErrLong)
	refusesToSplit(t, "one byte more, none's key from the beginning", strings.Repeat("\xff", api.MaxKey+1), api.ErrLong)
	refusesToSplit(t, "MaxKey bytes, and none's key", most[1:]+"\x09", api.ErrForm)
	refusesToSplit(t, "MaxKey bytes, whose last value lacks bytes", most[1:]+"\x01", api.ErrForm)
}

func TestP3_2SplitRefusesWhatIsNoKey(t *testing.T) {
	for _, x := range []struct{ name, s string }{
		{"a Bool without its byte", "\x01"},
		{"a Bool of byte 2", "\x01\x02"},
		{"a Bool of byte 80", "\x01\x80"},
		{"a Bool of byte ff", "\x01\xff"},
		{"an Int without its bytes", "\x02"},
		{"an Int that lacks one byte", "\x02\x80\x00\x00\x00\x00\x00\x00"},
		{"an Int with a byte left over that is no kind", "\x02\x80\x00\x00\x00\x00\x00\x00\x01\x05"},
		{"a Text of nothing", "\x03"},
		{"a Text without its end", "\x03a"},
		{"a Text whose end lacks a byte", "\x03a\x00"},
		{"a Text that ends behind a 00 of its own", "\x03a\x00\xff"},
		{"a 00 followed by 00", "\x03a\x00\x00\x01"},
		{"a 00 followed by 02", "\x03a\x00\x02\x00\x01"},
		{"a 00 followed by fe", "\x03a\x00\xfe\x00\x01"},
		{"a 00 followed by a letter", "\x03\x00b\x00\x01"},
		{"a second 00 followed by neither", "\x03\x00\xff\x00\x02\x00\x01"},
		{"bytes left over behind a Text", "\x03a\x00\x01a"},
		{"kind 4", "\x04"},
		{"kind 4 with a Text's bytes", "\x04a\x00\x01"},
		{"kind 80", "\x80"},
		{"kind ff", "\xff"},
		{"a kind that is none behind None", "\x00\x05"},
		{"a Text of MaxText + 1 bytes", "\x03" + strings.Repeat("x", api.MaxText+1) + "\x00\x01"},
		{"a Text of MaxText + 1 bytes 00", "\x03" + strings.Repeat("\x00\xff", api.MaxText+1) + "\x00\x01"},
	} {
		refusesToSplit(t, x.name, x.s, api.ErrForm)
		refusesToSplit(t, x.name+", behind a good value", "\x01\x01"+x.s, api.ErrForm)
	}
}

func TestP3_2SplitOfEveryKind(t *testing.T) {
	for b := range 256 {
		s := string([]byte{byte(b)})
		if b == api.None {
			continue
		}
		refusesToSplit(t, "a kind alone", s, api.ErrForm)
		if b > api.Text {
			refusesToSplit(t, "a kind that is none of api's", s+"\x00\x01\x00\x00\x00\x00\x00\x00\x00", api.ErrForm)
		}
	}
}

func TestP3_2AnswersAreNewMemory(t *testing.T) {
	s := strings.Clone("\x03oak\x00\x01\x03a\x00\xffb\x00\x01")
	first, _ := Split(s)
	second, _ := Split(s)
	for i := range first {
		for _, other := range []string{s[1:], s[7:], second[i].S} {
			if unsafe.StringData(first[i].S) == unsafe.StringData(other) {
				t.Errorf("value %d shares its text", i)
			}
		}
	}
	was := slices.Clone(second)
	for i := range first[:cap(first)] {
		first[:cap(first)][i] = integer(9)
	}
	if !slices.Equal(second, was) {
		t.Error("two answers share their list")
	}
}

func TestP3_3After(t *testing.T) {
	for _, x := range []struct{ s, want string }{
		{"", ""},
		{"\xff", ""},
		{"\xff\xff", ""},
		{strings.Repeat("\xff", api.MaxKey+1), ""},
		{"a", "b"},
		{"ab", "ac"},
		{"\x00", "\x01"},
		{"\x7f", "\x80"},
		{"\xfe", "\xff"},
		{"a\xfe", "a\xff"},
		{"a\xff", "b"},
		{"a\xff\xff", "b"},
		{"ab\xff\xff", "ac"},
		{"\xff\x00", "\xff\x01"},
		{"\xff\x00\xff", "\xff\x01"},
		{"\xffa\xffb\xff", "\xffa\xffc"},
		{"\xfe\xff", "\xff"},
		{"\x00\xff", "\x01"},
		// Neither is ff, though it is no rune's byte as ff is none's.
		{"a\x80", "a\x81"},
		{"a\xc3", "a\xc4"},
		{strings.Repeat("x", 1<<20), strings.Repeat("x", 1<<20-1) + "y"},
		{strings.Repeat("x", api.MaxKey) + "\xff", strings.Repeat("x", api.MaxKey-1) + "y"},
	} {
		if got := After(x.s); got != x.want {
			t.Errorf("%.40x: %.40x; want %.40x", x.s, got, x.want)
		}
	}
}

// textsOf: all texts of at most so many of these bytes.
func textsOf(bytes string, most int) []string {
	all := []string{""}
	from := 0
	for range most {
		till := len(all)
		for _, s := range all[from:till] {
			for i := range len(bytes) {
				all = append(all, s+bytes[i:i+1])
			}
		}
		from = till
	}
	return all
}

func TestP3_3AfterIsTheLeastAboveAllThatBeginWith(t *testing.T) {
	all := textsOf("\x00\x01\xfe\xff", 4)
	for _, s := range all {
		after := After(s)
		for _, u := range all {
			below := u < s || strings.HasPrefix(u, s)
			if got := after == "" || u < after; got != below {
				t.Fatalf("After of %x is %x: of %x it says %v", s, after, u, got)
			}
		}
	}
}

func TestP3_3RangeOfAKey(t *testing.T) {
	s, _ := Make(values(text("a"), integer(5)))
	after := After(s)
	for _, x := range []struct {
		l      []api.Value
		within bool
	}{
		{values(text("a"), integer(5)), true},
		{values(text("a"), integer(5), api.Value{}), true},
		{values(text("a"), integer(5), text("\xff")), true},
		{values(text("a"), integer(6)), false},
		{values(text("a"), integer(4), text("\xff")), false},
		{values(text("a")), false},
		{values(text("a\x00"), integer(5)), false},
	} {
		u, _ := Make(x.l)
		if got := s <= u && u < after; got != x.within {
			t.Error(x.l, got)
		}
	}
}

// edges: good values and None, rising.
var edges = []api.Value{
	{}, boolean(0), boolean(1),
	integer(math.MinInt64), integer(math.MinInt64 + 1), integer(-257), integer(-256), integer(-255), integer(-2), integer(-1),
	integer(0), integer(1), integer(255), integer(256), integer(1 << 32), integer(math.MaxInt64 - 1), integer(math.MaxInt64),
	text(""), text("\x00"), text("\x00\x00"), text("\x00\x01"), text("\x00\xff"), text("\x01"), text("\x01\x00"), text("\x03"),
	text("a"), text("a\x00"), text("a\x00\x01"), text("a\x00\xff"), text("a\x01"), text("aa"), text("a\xff"), text("b"),
	text("\xfe"), text("\xff"), text("\xff\x00"), text("\xff\xff"),
}

// lists: no value, each edge alone, each behind each other, and some more.
func lists() [][]api.Value {
	out := [][]api.Value{nil}
	for _, a := range edges {
		out = append(out, values(a))
		for _, b := range edges {
			out = append(out, values(a, b))
		}
		out = append(out, values(a, api.Value{}, api.Value{}), values(a, text(""), integer(0)))
	}
	return out
}

func made(t *testing.T, l []api.Value) string {
	t.Helper()
	s, err := Make(l)
	if err != api.OK {
		t.Fatal(l, err)
	}
	return s
}

func standsAsItsValues(t *testing.T, a, b []api.Value) {
	t.Helper()
	s, u := made(t, a), made(t, b)
	if got, want := strings.Compare(s, u), slices.CompareFunc(a, b, val.Compare); got != want {
		t.Fatalf("%v, %v: %d, but their keys %d", a, b, want, got)
	}
}

func TestP3_4KeysStandInTheOrderOfTheirValues(t *testing.T) {
	for i := range edges[1:] {
		if val.Compare(edges[i], edges[i+1]) != -1 {
			t.Fatal("not rising:", edges[i], edges[i+1])
		}
	}
	all := lists()
	var theirKeys []string
	for _, l := range all {
		theirKeys = append(theirKeys, made(t, l))
	}
	for i, a := range all {
		for j, b := range all {
			if got, want := strings.Compare(theirKeys[i], theirKeys[j]), slices.CompareFunc(a, b, val.Compare); got != want {
				t.Fatalf("%v, %v: %d, but their keys %d", a, b, want, got)
			}
		}
	}
}

func TestP3_4FewerAheadOfMore(t *testing.T) {
	all := edges[len(edges)-12:]
	for n := range all {
		less, _ := Make(all[:n])
		more, _ := Make(all[:n+1])
		if less >= more || !strings.HasPrefix(more, less) {
			t.Errorf("%d values: %x, one more: %x", n, less, more)
		}
	}
}

func anyValue(source *rand.Rand) api.Value {
	if source.Intn(2) == 0 {
		return edges[source.Intn(len(edges))]
	}
	switch source.Intn(3) {
	case 0:
		return boolean(source.Int63n(2))
	case 1:
		return integer(int64(source.Uint64()) >> source.Intn(64))
	}
	s := make([]byte, source.Intn(6))
	for i := range s {
		s[i] = "\x00\x01\x02\x03a\xfe\xff"[source.Intn(7)]
	}
	return text(string(s))
}

func anyValues(source *rand.Rand) []api.Value {
	l := make([]api.Value, source.Intn(5))
	for i := range l {
		l[i] = anyValue(source)
	}
	return l
}

func TestP3_4AnyTwoLists(t *testing.T) {
	source := rand.New(rand.NewSource(4))
	for range 100000 {
		a, b := anyValues(source), anyValues(source)
		standsAsItsValues(t, a, b)
		// The same ones ahead, so that the first that differ stand late.
		standsAsItsValues(t, append(slices.Clone(a), b...), append(slices.Clone(a), anyValue(source)))
	}
}

func comesBack(t *testing.T, l []api.Value) {
	t.Helper()
	s := made(t, l)
	if got, err := Split(s); !slices.Equal(got, l) || err != api.OK {
		t.Fatalf("%v: key %x, of which Split tells %v, %d", l, s, got, err)
	}
}

func TestP3_5SplitOfMakeIsTheValues(t *testing.T) {
	for _, l := range lists() {
		comesBack(t, l)
	}
	for b := range 256 {
		comesBack(t, values(text(string([]byte{byte(b)})), text(string([]byte{0, byte(b)})), text(string([]byte{byte(b), 0}))))
	}
	comesBack(t, values(zeros(api.MaxText), letters(1024), letters(1015)))
	comesBack(t, make([]api.Value, api.MaxKey))
}

func TestP3_5AnyList(t *testing.T) {
	source := rand.New(rand.NewSource(5))
	for range 100000 {
		comesBack(t, anyValues(source))
	}
}

// TestP3_5MakeOfSplitIsTheKey: bytes are the key of one list at most.
func TestP3_5MakeOfSplitIsTheKey(t *testing.T) {
	source := rand.New(rand.NewSource(6))
	good := 0
	for range 200000 {
		s, _ := Make(anyValues(source))
		if s == "" {
			continue
		}
		b := []byte(s)
		b[source.Intn(len(b))] = "\x00\x01\x02\x03\x04a\xff"[source.Intn(7)]
		b = b[:len(b)-source.Intn(2)]
		l, err := Split(string(b))
		if err == api.ErrForm && len(l) == 0 {
			continue
		}
		if got := made(t, l); err != api.OK || got != string(b) {
			t.Fatalf("%x: %v, %d; whose key is %x", b, l, err, got)
		}
		good++
	}
	if good < 1000 {
		t.Error("too few were keys to tell:", good)
	}
}
