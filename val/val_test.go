package val

import (
	"math"
	"math/rand"
	"slices"
	"strings"
	"testing"
	"unsafe"

	"hedgerow/api"
	"hedgerow/num"
)

func boolean(n int64) api.Value { return api.Value{Kind: api.Bool, N: n} }
func integer(n int64) api.Value { return api.Value{Kind: api.Int, N: n} }
func text(s string) api.Value   { return api.Value{Kind: api.Text, S: s} }

func prop(name string, v api.Value) api.Prop { return api.Prop{Name: name, V: v} }

// longest: a text of as many bytes as a value may have.
var longest = strings.Repeat("\xff", api.MaxText)

// goodValues: good values beside their bytes, worked out by hand from the chapter.
var goodValues = []struct {
	v api.Value
	s string
}{
	{boolean(0), "\x01\x00"},
	{boolean(1), "\x01\x01"},
	{integer(0), "\x02\x00"},
	{integer(1), "\x02\x02"},
	{integer(-1), "\x02\x01"},
	{integer(2), "\x02\x04"},
	{integer(63), "\x02\x7e"},
	{integer(64), "\x02\x80\x01"},
	{integer(300), "\x02\xd8\x04"},
	{integer(math.MaxInt64), "\x02\xfe\xff\xff\xff\xff\xff\xff\xff\xff\x01"},
	{integer(math.MinInt64), "\x02\xff\xff\xff\xff\xff\xff\xff\xff\xff\x01"},
	{text(""), "\x03\x00"},
	{text("a"), "\x03\x01a"},
	{text("\x00\x80\xff"), "\x03\x03\x00\x80\xff"},
	{text(strings.Repeat("t", 127)), "\x03\x7f" + strings.Repeat("t", 127)},
	{text(strings.Repeat("t", 128)), "\x03\x80\x01" + strings.Repeat("t", 128)},
	{text(longest[1:]), "\x03\xff\x07" + longest[1:]},
	{text(longest), "\x03\x80\x08" + longest},
}

// badValues: neither good nor None with N 0 and no S.
var badValues = []struct {
	name string
	v    api.Value
}{
	{"a Bool 2", boolean(2)},
	{"a Bool -1", boolean(-1)},
	{"a Bool 256, whose lowest byte is 0", boolean(256)},
	{"a Bool 257, whose lowest byte is 1", boolean(257)},
	{"the greatest Bool", boolean(math.MaxInt64)},
	{"the least Bool", boolean(math.MinInt64)},
	{"a Bool 0 with an S", api.Value{Kind: api.Bool, S: "s"}},
	{"a Bool 1 with an S", api.Value{Kind: api.Bool, N: 1, S: "\x00"}},
	{"an Int 0 with an S", api.Value{Kind: api.Int, S: "s"}},
	{"an Int with an S", api.Value{Kind: api.Int, N: 7, S: "\x00"}},
	{"a Text with an N", api.Value{Kind: api.Text, N: 1, S: "s"}},
	{"a Text with an N below 0", api.Value{Kind: api.Text, N: -1, S: "s"}},
	{"an empty Text with an N", api.Value{Kind: api.Text, N: 1}},
	{"a Text of MaxText + 1 bytes", text(longest + "x")},
	{"a Text of far more bytes", text(strings.Repeat("x", 1<<20))},
	{"None with an N", api.Value{N: 1}},
	{"None with an N below 0", api.Value{N: -1}},
	{"None with an S", api.Value{S: "s"}},
	{"None with both", api.Value{N: 1, S: "s"}},
	{"kind 4", api.Value{Kind: 4}},
	{"kind -1", api.Value{Kind: -1}},
	{"kind 255", api.Value{Kind: 255}},
	{"kind 256, whose lowest byte is None's", api.Value{Kind: 256}},
	{"kind 257, whose lowest byte is Bool's", api.Value{Kind: 257}},
	{"kind 258, whose lowest byte is Int's", api.Value{Kind: 258, N: 5}},
	{"kind 259, whose lowest byte is Text's", api.Value{Kind: 259, S: "s"}},
	{"the greatest kind", api.Value{Kind: math.MaxInt}},
	{"the least kind", api.Value{Kind: math.MinInt}},
}

// before, behind: what may stand beside a thing's bytes.
var before = []string{"", "\x00", "\x03", "\x02\x80", "ab", "\xff\xff\xff"}
var behind = []string{"", "\x00", "\x01", "\x80", "\xff\xff", "xyz"}

func TestP2_1Name(t *testing.T) {
	good := []string{"a", "z", "ab", "a1", "a_", "a__", "z9_a0", "node_type", strings.Repeat("a", api.MaxName), "a" + strings.Repeat("9", api.MaxName-1), "a" + strings.Repeat("_", api.MaxName-1)}
	for _, s := range good {
		if !Name(s) {
			t.Errorf("%q is no name", s)
		}
	}
	bad := []string{"", "1", "_", "1a", "_a", "A", "aB", "Ab", " a", "a ", "a b", "a-b", "a.b", "a\x00", "\x00", "\xffa", "a\x80", "\u00e9", "a\u00e9", "a\n", strings.Repeat("a", api.MaxName+1), strings.Repeat("a", api.MaxName) + "_", strings.Repeat("a", 1<<20)}
	for _, s := range bad {
		if Name(s) {
			t.Errorf("%.40q is a name", s)
		}
	}
}

func TestP2_1NameOfEveryByte(t *testing.T) {
	const letters, others = "abcdefghijklmnopqrstuvwxyz", "0123456789_"
	for b := range 256 {
		c := string([]byte{byte(b)})
		first := strings.Contains(letters, c)
		if Name(c) != first || Name(c+"a") != first {
			t.Errorf("%q as the first byte: %v, %v", c, Name(c), Name(c+"a"))
		}
		later := strings.Contains(letters+others, c)
		for at := 1; at < api.MaxName; at++ {
			s := strings.Repeat("a", at) + c
			if Name(s) != later || Name(s+strings.Repeat("_", api.MaxName-at-1)) != later {
				t.Errorf("%q as byte %d: %v", c, at, Name(s))
			}
		}
	}
}

func TestP2_1Good(t *testing.T) {
	for _, x := range goodValues {
		if !Good(x.v) {
			t.Errorf("kind %d, N %d, %d bytes: not good", x.v.Kind, x.v.N, len(x.v.S))
		}
	}
	for _, x := range badValues {
		if Good(x.v) {
			t.Errorf("%s: good", x.name)
		}
	}
	if Good(api.Value{}) {
		t.Error("None: good")
	}
}

// named: n properties by rising names.
func named(n int) []api.Prop {
	var l []api.Prop
	for i := range n {
		l = append(l, prop("p"+string([]byte{byte('a' + i)}), integer(int64(i))))
	}
	return l
}

// badProps: lists that are no good properties.
func badProps() map[string][]api.Prop {
	a, b := prop("a", integer(1)), prop("b", text("b"))
	l := map[string][]api.Prop{
		"one more than MaxProps":             named(api.MaxProps + 1),
		"many":                               slices.Repeat(named(api.MaxProps), 1000),
		"names that fall":                    {b, a},
		"names that fall at the end":         {a, prop("c", integer(1)), b},
		"the same name twice":                {a, a},
		"the same name, another value":       {a, prop("a", integer(2))},
		"the same name at the end":           {a, b, b},
		"the longer name ahead":              {prop("ab", integer(1)), a},
		"a name that is none":                {prop("A", integer(1))},
		"an empty name":                      {prop("", integer(1))},
		"a name of MaxName + 1 bytes":        {prop(strings.Repeat("a", api.MaxName+1), integer(1))},
		"a name that is none, at the end":    {a, b, prop("c-", integer(1))},
		"a name that is none, at the front":  {prop("1", integer(1)), a, b},
		"None":                               {prop("a", api.Value{})},
		"None at the end":                    {a, b, prop("c", api.Value{})},
		"None at the front":                  {prop("a", api.Value{}), b},
		"a nameless None among MaxProps":     append(named(api.MaxProps-1), api.Prop{}),
		"a bad value at the end of MaxProps": append(named(api.MaxProps-1), prop("z", boolean(2))),
	}
	for _, x := range badValues {
		l[x.name] = []api.Prop{a, prop("b", x.v)}
	}
	return l
}

// goodProps: lists that are good properties, beside their bytes.
func goodProps() []struct {
	l []api.Prop
	s string
} {
	name := strings.Repeat("n", api.MaxName)
	full := named(api.MaxProps)
	return []struct {
		l []api.Prop
		s string
	}{
		{nil, "\x00"},
		{[]api.Prop{}, "\x00"},
		{[]api.Prop{prop("a", boolean(1))}, "\x01\x01a\x01\x01"},
		{[]api.Prop{prop("a", integer(300)), prop("b", text("oak"))}, "\x02\x01a\x02\xd8\x04\x01b\x03\x03oak"},
		{[]api.Prop{prop("a", text("")), prop("a0", text("")), prop("a_", text("")), prop("aa", text(""))}, "\x04\x01a\x03\x00\x02a0\x03\x00\x02a_\x03\x00\x02aa\x03\x00"},
		{[]api.Prop{prop(name, text(longest))}, "\x01\x10" + name + "\x03\x80\x08" + longest},
		{full, "\x08\x02pa\x02\x00\x02pb\x02\x02\x02pc\x02\x04\x02pd\x02\x06\x02pe\x02\x08\x02pf\x02\x0a\x02pg\x02\x0c\x02ph\x02\x0e"},
	}
}

func TestP2_1Props(t *testing.T) {
	for _, x := range goodProps() {
		if !Props(x.l) {
			t.Errorf("%.100v: not good", x.l)
		}
	}
	for name, l := range badProps() {
		if Props(l) {
			t.Errorf("%s: good", name)
		}
	}
	for n := range 2 * api.MaxProps {
		if Props(named(n)) != (n <= api.MaxProps) {
			t.Errorf("%d properties: %v", n, Props(named(n)))
		}
	}
}

func TestP2_1Compare(t *testing.T) {
	// Each below the next one.
	rising := []api.Value{
		{Kind: math.MinInt, N: math.MaxInt64, S: "z"},
		{Kind: -1},
		{N: math.MinInt64, S: "a"},
		{N: -1},
		{},
		{S: "\x00"},
		{S: "a"},
		{N: 1},
		boolean(-1),
		boolean(0),
		{Kind: api.Bool, S: "s"},
		boolean(1),
		boolean(math.MaxInt64),
		integer(math.MinInt64),
		integer(-300),
		integer(-1),
		integer(0),
		{Kind: api.Int, S: "s"},
		integer(1),
		integer(300),
		integer(math.MaxInt64),
		{Kind: api.Int, N: math.MaxInt64, S: "s"},
		{Kind: api.Text, N: -1, S: "z"},
		text(""),
		text("\x00"),
		text("\x00\x00"),
		text("A"),
		text("a"),
		text("a\x00"),
		text("aa"),
		text("b"),
		text("\x7f"),
		text("\x80"),
		text(longest[1:]),
		text(longest),
		text(longest + "\x00"),
		{Kind: api.Text, N: 1},
		{Kind: 4, N: -5},
		{Kind: 4},
		{Kind: math.MaxInt, N: math.MinInt64},
	}
	for i, a := range rising {
		for j, b := range rising {
			want := 0
			if i < j {
				want = -1
			} else if i > j {
				want = 1
			}
			if got := Compare(a, b); got != want {
				t.Errorf("%d against %d: %d", i, j, got)
			}
		}
	}
}

// refuses tells whether s has no value from at on.
func refuses(t *testing.T, why, s string, at int) {
	t.Helper()
	if v, size, ok := Decode(s, at); v != (api.Value{}) || size != 0 || ok {
		t.Errorf("%s: Decode(%.20x.., %d): kind %d, %d, %v", why, s, at, v.Kind, size, ok)
	}
}

func TestP2_2EncodeIsItsBytes(t *testing.T) {
	for _, x := range goodValues {
		if got := Encode(x.v); got != x.s {
			t.Errorf("kind %d, N %d, %d bytes: %.20x.., not %.20x..", x.v.Kind, x.v.N, len(x.v.S), got, x.s)
		}
	}
	if got := Encode(api.Value{}); got != "\x00" {
		t.Errorf("None: %x", got)
	}
	for _, x := range badValues {
		if got := Encode(x.v); got != "" {
			t.Errorf("%s: %.20x", x.name, got)
		}
	}
}

func TestP2_2DecodeWhereverItStands(t *testing.T) {
	all := append(slices.Clone(goodValues), struct {
		v api.Value
		s string
	}{api.Value{}, "\x00"})
	for _, x := range all {
		for _, a := range before {
			for _, b := range behind {
				v, size, ok := Decode(a+x.s+b, len(a))
				if v != x.v || size != len(x.s) || !ok {
					t.Errorf("%.20x.. at %d: kind %d, N %d, %d, %v", x.s, len(a), v.Kind, v.N, size, ok)
				}
			}
		}
	}
}

func TestP2_2DecodeRefuses(t *testing.T) {
	for _, x := range goodValues {
		for k := range len(x.s) {
			refuses(t, "cut off", x.s[:k], 0)
			refuses(t, "cut off, further on", "\x01\x01"+x.s[:k], 2)
		}
		for _, at := range []int{-1, math.MinInt, len(x.s), len(x.s) + 1, math.MaxInt} {
			refuses(t, "nowhere", x.s, at)
		}
	}
	for _, at := range []int{-1, 0, 1, math.MinInt, math.MaxInt} {
		refuses(t, "nothing", "", at)
	}
	for b := 4; b < 256; b++ {
		refuses(t, "a kind that is none of api's", string([]byte{byte(b)})+"\x00\x00\x00", 0)
	}
	for b := 2; b < 256; b++ {
		refuses(t, "a Bool that is neither 0 nor 1", "\x01"+string([]byte{byte(b)})+"\x00", 0)
	}
	refuses(t, "an Int of more bytes than it takes", "\x02\x80\x00", 0)
	refuses(t, "an Int of 2^64", "\x02"+strings.Repeat("\x80", 9)+"\x02", 0)
	refuses(t, "an Int without an end", "\x02"+strings.Repeat("\xff", 50), 0)
	refuses(t, "a Text of MaxText + 1 bytes", "\x03\x81\x08"+longest+"x", 0)
	refuses(t, "a length of more bytes than it takes", "\x03\x81\x00a", 0)
	refuses(t, "a length without an end", "\x03"+strings.Repeat("\xff", 50), 0)
	refuses(t, "a length far above what is there", "\x03"+num.Put(math.MaxUint64)+"abc", 0)
}

func TestP2_3EncodeProps(t *testing.T) {
	for _, x := range goodProps() {
		if s, err := EncodeProps(x.l); s != x.s || err != api.OK {
			t.Errorf("%.100v: %.40x, %v, not %.40x", x.l, s, err, x.s)
		}
	}
	for name, l := range badProps() {
		if s, err := EncodeProps(l); s != "" || err != api.ErrProp {
			t.Errorf("%s: %.40x, %v", name, s, err)
		}
	}
}

func TestP2_3DecodePropsWhereverTheyStand(t *testing.T) {
	for _, x := range goodProps() {
		for _, a := range before {
			for _, b := range behind {
				l, size, ok := DecodeProps(a+x.s+b, len(a))
				if !slices.Equal(l, x.l) || size != len(x.s) || !ok {
					t.Errorf("%.40x at %d: %.100v, %d, %v", x.s, len(a), l, size, ok)
				}
			}
		}
	}
}

// refusesProps tells whether s has no properties from at on.
func refusesProps(t *testing.T, why, s string, at int) {
	t.Helper()
	if l, size, ok := DecodeProps(s, at); len(l) != 0 || size != 0 || ok {
		t.Errorf("%s: DecodeProps(%.40x.., %d): %.100v, %d, %v", why, s, at, l, size, ok)
	}
}

// written are the bytes of l, good or not, where each value has any.
func written(l []api.Prop) string {
	s := num.Put(uint64(len(l)))
	for _, p := range l {
		s += num.PutText(p.Name) + Encode(p.V)
	}
	return s
}

func TestP2_3DecodePropsRefuses(t *testing.T) {
	for _, x := range goodProps() {
		for k := range len(x.s) {
			refusesProps(t, "cut off", x.s[:k], 0)
			refusesProps(t, "cut off, further on", "\x00\x00"+x.s[:k], 2)
		}
		for _, at := range []int{-1, math.MinInt, len(x.s), len(x.s) + 1, math.MaxInt} {
			refusesProps(t, "nowhere", x.s, at)
		}
	}
	for _, at := range []int{-1, 0, 1, math.MinInt, math.MaxInt} {
		refusesProps(t, "nothing", "", at)
	}
	for name, l := range badProps() {
		refusesProps(t, name, written(l), 0)
		refusesProps(t, name+", further on", "\x00"+written(l)+"\x00", 1)
	}
	for _, n := range []uint64{api.MaxProps + 1, 1 << 31, 1 << 63, math.MaxUint64} {
		refusesProps(t, "more than MaxProps", num.Put(n)+strings.Repeat("\x01a\x01\x00", 20), 0)
	}
	refusesProps(t, "a count of more bytes than it takes", "\x80\x00", 0)
	refusesProps(t, "likewise of one", "\x81\x00\x01a\x01\x00", 0)
	refusesProps(t, "a name's length of more bytes than it takes", "\x01\x81\x00a\x01\x00", 0)
	refusesProps(t, "a kind that is none of api's", "\x01\x01a\x04\x00", 0)
	refusesProps(t, "a Bool 2", "\x01\x01a\x01\x02", 0)
	refusesProps(t, "a Text of MaxText + 1 bytes", "\x01\x01a\x03\x81\x08"+longest+"x", 0)
}

func TestP2_4Set(t *testing.T) {
	a, b, c, d := prop("a", integer(1)), prop("b", text("b")), prop("c", boolean(1)), prop("d", integer(4))
	none := api.Value{}
	for _, x := range []struct {
		name string
		l    []api.Prop
		set  string
		v    api.Value
		want []api.Prop
	}{
		{"the first one", nil, "a", a.V, []api.Prop{a}},
		{"at the front", []api.Prop{b, c}, "a", a.V, []api.Prop{a, b, c}},
		{"between", []api.Prop{a, c}, "b", b.V, []api.Prop{a, b, c}},
		{"at the end", []api.Prop{a, b}, "c", c.V, []api.Prop{a, b, c}},
		{"over the first one", []api.Prop{a, b, c}, "a", text("x"), []api.Prop{prop("a", text("x")), b, c}},
		{"over one between", []api.Prop{a, b, c}, "b", integer(9), []api.Prop{a, prop("b", integer(9)), c}},
		{"over the last one", []api.Prop{a, b, c}, "c", boolean(0), []api.Prop{a, b, prop("c", boolean(0))}},
		{"over the only one", []api.Prop{a}, "a", text(""), []api.Prop{prop("a", text(""))}},
		{"as it is", []api.Prop{a, b}, "b", b.V, []api.Prop{a, b}},
		{"the first one goes", []api.Prop{a, b, c}, "a", none, []api.Prop{b, c}},
		{"one between goes", []api.Prop{a, b, c}, "b", none, []api.Prop{a, c}},
		{"the last one goes", []api.Prop{a, b, c}, "c", none, []api.Prop{a, b}},
		{"the only one goes", []api.Prop{a}, "a", none, nil},
		{"none goes", []api.Prop{a, c}, "b", none, []api.Prop{a, c}},
		{"none goes of none", nil, "b", none, nil},
		{"None with an N and an S takes away, too", []api.Prop{a, b}, "a", api.Value{N: 5, S: "s"}, []api.Prop{b}},
		{"of several one comes", []api.Prop{a, b, a, c, a}, "a", integer(7), []api.Prop{prop("a", integer(7)), b, c}},
		{"of several all go", []api.Prop{a, b, a, c, a}, "a", none, []api.Prop{b, c}},
		{"of several at the end", []api.Prop{c, a, c, b, c}, "c", integer(7), []api.Prop{a, b, prop("c", integer(7))}},
		{"nothing but several", []api.Prop{b, b, b}, "b", integer(7), []api.Prop{prop("b", integer(7))}},
		{"out of order: ahead of the first not below", []api.Prop{c, a, d}, "b", b.V, []api.Prop{b, c, a, d}},
		{"out of order: not where it stood", []api.Prop{d, a, b}, "b", integer(7), []api.Prop{prop("b", integer(7)), d, a}},
		{"out of order: behind those below", []api.Prop{b, a, d, c}, "c", c.V, []api.Prop{b, a, c, d}},
		{"others twice stay", []api.Prop{a, a, c, c}, "b", b.V, []api.Prop{a, a, b, c, c}},
		{"a value that is not good", []api.Prop{a}, "b", boolean(7), []api.Prop{a, prop("b", boolean(7))}},
		{"a kind that is none of api's", []api.Prop{a}, "a", api.Value{Kind: -9, N: 1, S: "s"}, []api.Prop{prop("a", api.Value{Kind: -9, N: 1, S: "s"})}},
		{"a name that is none", []api.Prop{a}, "A-", integer(1), []api.Prop{prop("A-", integer(1)), a}},
		{"an empty name", []api.Prop{a}, "", integer(1), []api.Prop{prop("", integer(1)), a}},
		{"an empty name goes", []api.Prop{prop("", integer(1)), a}, "", none, []api.Prop{a}},
		{"bad ones stay as they are", []api.Prop{prop("B", none), prop("\xff", boolean(3))}, "b", b.V, []api.Prop{prop("B", none), b, prop("\xff", boolean(3))}},
		{"names of the same beginning", []api.Prop{prop("a", a.V), prop("ab", a.V)}, "aa", b.V, []api.Prop{prop("a", a.V), prop("aa", b.V), prop("ab", a.V)}},
		{"more than MaxProps", named(api.MaxProps), "z", a.V, append(named(api.MaxProps), prop("z", a.V))},
	} {
		if got := Set(x.l, x.set, x.v); !slices.Equal(got, x.want) {
			t.Errorf("%s: %v, not %v", x.name, got, x.want)
		}
	}
}

func TestP2_4Get(t *testing.T) {
	bad := api.Value{Kind: 77, N: 8, S: "s"}
	l := []api.Prop{prop("c", integer(3)), prop("a", text("first")), prop("a", text("second")), prop("", bad), prop("n", api.Value{})}
	for _, x := range []struct {
		name string
		v    api.Value
		ok   bool
	}{{"c", integer(3), true}, {"a", text("first"), true}, {"", bad, true}, {"n", api.Value{}, true}, {"b", api.Value{}, false}, {"A", api.Value{}, false}, {"aa", api.Value{}, false}, {"c\x00", api.Value{}, false}} {
		if v, ok := Get(l, x.name); v != x.v || ok != x.ok {
			t.Errorf("Get %q: %v, %v", x.name, v, ok)
		}
	}
	if v, ok := Get(nil, "a"); v != (api.Value{}) || ok {
		t.Errorf("Get of nothing: %v, %v", v, ok)
	}
}

func TestP2_4WhatIsHandedInStays(t *testing.T) {
	room := []api.Prop{prop("b", integer(2)), prop("d", integer(4)), prop("spare", integer(9)), prop("spare", integer(9))}
	was := slices.Clone(room)
	l := room[:2]
	for _, name := range []string{"a", "b", "c", "d", "e"} {
		for _, v := range []api.Value{{}, integer(7), text("t")} {
			got := Set(l, name, v)
			got = got[:cap(got)]
			for i := range got {
				got[i] = prop("other", boolean(0))
			}
			if !slices.Equal(room, was) {
				t.Fatalf("Set of %q to kind %d changed what was handed in: %v", name, v.Kind, room)
			}
		}
	}
}

// sameMemory tells whether two texts lie in one place.
func sameMemory(a, b string) bool {
	return a != "" && b != "" && unsafe.StringData(a) == unsafe.StringData(b)
}

func TestP2_4AnswersAreNewMemory(t *testing.T) {
	l := []api.Prop{prop("ab", text("of ab")), prop("cd", text("of cd"))}
	name, v := strings.Clone("bc"), text(strings.Clone("of bc"))
	got := Set(l, name, v)
	for _, p := range got {
		for _, q := range append(slices.Clone(l), prop(name, v)) {
			if sameMemory(p.Name, q.Name) || sameMemory(p.V.S, q.V.S) {
				t.Errorf("%q shares its texts with what was handed in", p.Name)
			}
		}
	}
	if v, ok := Get(l, "cd"); !ok || sameMemory(v.S, l[1].V.S) {
		t.Error("Get shares its text with what was handed in")
	}
	s, _ := EncodeProps(l)
	back, _, _ := DecodeProps(s, 0)
	if len(back) != 2 || sameMemory(back[0].Name, s[2:]) || sameMemory(back[0].V.S, s[6:]) {
		t.Error("DecodeProps shares its texts with what was handed in")
	}
}

// asItStood holds what stands in s against P2.5: what is decoded is encoded as
// it stood, and no more bytes are asked than that.
func asItStood(t *testing.T, s string) (values, props int) {
	t.Helper()
	if v, size, ok := Decode(s, 0); ok {
		values++
		if !Good(v) && v != (api.Value{}) {
			t.Fatalf("%x was decoded as what is not good: %v", s, v)
		}
		if Encode(v) != s[:size] {
			t.Fatalf("%x was decoded as %v and is encoded as %x", s[:size], v, Encode(v))
		}
	}
	if l, size, ok := DecodeProps(s, 0); ok {
		props++
		if again, err := EncodeProps(l); again != s[:size] || err != api.OK {
			t.Fatalf("%x was decoded as %v and is encoded as %x, %v", s[:size], l, again, err)
		}
	}
	return values, props
}

func TestP2_5WhatIsDecodedIsEncodedAsItStood(t *testing.T) {
	for a := range 256 {
		asItStood(t, string([]byte{byte(a)}))
		for b := range 256 {
			asItStood(t, string([]byte{byte(a), byte(b)}))
			for _, c := range []byte{0, 1, 2, 3, 4, 0x7f, 0x80, 0x81, 0xff} {
				asItStood(t, string([]byte{byte(a), byte(b), c}))
			}
		}
	}
	source := rand.New(rand.NewSource(1))
	common := []byte{0, 1, 1, 2, 2, 3, 4, 8, 9, 'a', 'b', 'c', '_', '0', 'A', 0x7f, 0x80, 0x81, 0xff}
	values, props := 0, 0
	for range 300000 {
		s := make([]byte, source.Intn(14))
		for i := range s {
			s[i] = common[source.Intn(len(common))]
		}
		if len(s) > 5 {
			copy(s, "\x02\x01a\x01\x01"[:source.Intn(6)])
		}
		v, p := asItStood(t, string(s))
		values, props = values+v, props+p
	}
	if values < 10000 || props < 1000 {
		t.Errorf("too few to tell: %d values, %d properties", values, props)
	}
}

// anyValue is a good value, and now and then one that is not.
func anyValue(source *rand.Rand) api.Value {
	switch source.Intn(8) {
	case 0, 1:
		return boolean(int64(source.Intn(2)))
	case 2, 3:
		return integer(int64(source.Uint64()) >> source.Intn(64))
	case 4, 5:
		return text(longest[:source.Intn(40)] + "t")
	case 6:
		return text(strings.Repeat("l", api.MaxText-2+source.Intn(5)))
	}
	return api.Value{Kind: source.Intn(6) - 1, N: int64(source.Intn(4) - 1), S: "s"[:source.Intn(2)]}
}

func TestP2_5WhatWasEncodedIsDecoded(t *testing.T) {
	source := rand.New(rand.NewSource(2))
	for range 50000 {
		v := anyValue(source)
		s := Encode(v)
		if (s != "") != (Good(v) || v == api.Value{}) {
			t.Fatalf("%.60v: %d bytes", v, len(s))
		}
		a, b := before[source.Intn(len(before))], behind[source.Intn(len(behind))]
		if got, size, ok := Decode(a+s+b, len(a)); s != "" && (got != v || size != len(s) || !ok) {
			t.Fatalf("%.60v was encoded, and decoded as %.60v, %d, %v", v, got, size, ok)
		}
	}
}

func TestP2_5OneBehindTheOther(t *testing.T) {
	all := ""
	for i, x := range goodValues {
		s, _ := EncodeProps(named(i % (api.MaxProps + 1)))
		all += Encode(x.v) + "\x00" + s
	}
	at := 0
	for i, x := range goodValues {
		v, size, ok := Decode(all, at)
		at += size
		none, sizeNone, okNone := Decode(all, at)
		at += sizeNone
		l, sizeProps, okProps := DecodeProps(all, at)
		at += sizeProps
		if !ok || !okNone || !okProps || v != x.v || none != (api.Value{}) || !slices.Equal(l, named(i%(api.MaxProps+1))) {
			t.Fatal(i, v.Kind, none, l, ok, okNone, okProps)
		}
	}
	if at != len(all) {
		t.Error(at, len(all))
	}
}

// setAnotherWay: Set told by sorting what is left of good properties.
func setAnotherWay(l []api.Prop, name string, v api.Value) []api.Prop {
	out := slices.DeleteFunc(slices.Clone(l), func(p api.Prop) bool { return p.Name == name })
	if v.Kind != api.None {
		out = append(out, prop(name, v))
	}
	slices.SortStableFunc(out, func(a, b api.Prop) int { return strings.Compare(a.Name, b.Name) })
	return out
}

func TestP2_6SetKeepsGoodPropertiesGood(t *testing.T) {
	source := rand.New(rand.NewSource(3))
	names := []string{"a", "aa", "a0", "a_", "b", "b9", "c", "z", "zz", strings.Repeat("n", api.MaxName), "node"}
	var l []api.Prop
	full, gone := 0, 0
	for range 50000 {
		name, v := names[source.Intn(len(names))], anyValue(source)
		if !Good(v) {
			v = api.Value{}
		}
		got := Set(l, name, v)
		if !slices.Equal(got, setAnotherWay(l, name, v)) {
			t.Fatalf("%v with %q of %.60v: %v", l, name, v, got)
		}
		if back, ok := Get(got, name); back != v || ok != (v.Kind != api.None) {
			t.Fatalf("%q was set to %.60v and is %.60v, %v", name, v, back, ok)
		}
		if Props(got) != (len(got) <= api.MaxProps) {
			t.Fatalf("good properties are good no more: %v", got)
		}
		if len(got) > api.MaxProps {
			full++
			continue
		}
		if len(got) < len(l) {
			gone++
		}
		if s, err := EncodeProps(got); err != api.OK || s != written(got) {
			t.Fatalf("%v: %v", got, err)
		}
		l = got
	}
	if full < 100 || gone < 100 {
		t.Errorf("too few to tell: %d without room, %d taken away", full, gone)
	}
}
