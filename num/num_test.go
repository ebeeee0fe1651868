package num

import (
	"encoding/binary"
	"math"
	"math/rand"
	"strings"
	"testing"
	"unsafe"
)

// numbers: each number beside its bytes, worked out by hand from the chapter.
var numbers = []struct {
	n uint64
	s string
}{
	{0, "\x00"},
	{1, "\x01"},
	{127, "\x7f"},
	{128, "\x80\x01"},
	{129, "\x81\x01"},
	{255, "\xff\x01"},
	{256, "\x80\x02"},
	{300, "\xac\x02"},
	{1<<14 - 1, "\xff\x7f"},
	{1 << 14, "\x80\x80\x01"},
	{1<<21 - 1, "\xff\xff\x7f"},
	{1 << 21, "\x80\x80\x80\x01"},
	{1<<56 - 1, "\xff\xff\xff\xff\xff\xff\xff\x7f"},
	{1 << 56, "\x80\x80\x80\x80\x80\x80\x80\x80\x01"},
	{1<<63 - 1, "\xff\xff\xff\xff\xff\xff\xff\xff\x7f"},
	{1 << 63, "\x80\x80\x80\x80\x80\x80\x80\x80\x80\x01"},
	{1<<63 + 1, "\x81\x80\x80\x80\x80\x80\x80\x80\x80\x01"},
	{math.MaxUint64 - 1, "\xfe\xff\xff\xff\xff\xff\xff\xff\xff\x01"},
	{math.MaxUint64, "\xff\xff\xff\xff\xff\xff\xff\xff\xff\x01"},
}

// signed: likewise of signed numbers.
var signed = []struct {
	n int64
	s string
}{
	{0, "\x00"},
	{-1, "\x01"},
	{1, "\x02"},
	{-2, "\x03"},
	{63, "\x7e"},
	{-64, "\x7f"},
	{64, "\x80\x01"},
	{-65, "\x81\x01"},
	{300, "\xd8\x04"},
	{1<<62 - 1, "\xfe\xff\xff\xff\xff\xff\xff\xff\x7f"},
	{-1 << 62, "\xff\xff\xff\xff\xff\xff\xff\xff\x7f"},
	{1 << 62, "\x80\x80\x80\x80\x80\x80\x80\x80\x80\x01"},
	{math.MaxInt64, "\xfe\xff\xff\xff\xff\xff\xff\xff\xff\x01"},
	{math.MinInt64 + 1, "\xfd\xff\xff\xff\xff\xff\xff\xff\xff\x01"},
	{math.MinInt64, "\xff\xff\xff\xff\xff\xff\xff\xff\xff\x01"},
}

// noNumbers: where no number's bytes stand.
var noNumbers = []struct {
	name string
	s    string
	at   int
}{
	{"nothing", "", 0},
	{"at the end", "abc", 3},
	{"behind the end", "abc", 4},
	{"far behind the end", "abc", math.MaxInt},
	{"behind the end of nothing", "", 1},
	{"ahead of the beginning", "abc", -1},
	{"far ahead of the beginning", "abc", math.MinInt},
	{"the last byte lacks", "\x80", 0},
	{"the last byte lacks, further on", "a\xff\xff", 1},
	{"nine bytes, the tenth lacks", strings.Repeat("\xff", 9), 0},
	{"a last byte 0 that is not the only one", "\x80\x00", 0},
	{"300 with a byte too many", "\xac\x82\x00", 0},
	{"a third byte 0", "\xff\x80\x00", 0},
	{"a tenth byte 0", strings.Repeat("\x80", 9) + "\x00", 0},
	{"a tenth byte 2: 2^64", strings.Repeat("\x80", 9) + "\x02", 0},
	{"a tenth byte 3", strings.Repeat("\xff", 9) + "\x03", 0},
	{"a tenth byte 7f", strings.Repeat("\xff", 9) + "\x7f", 0},
	{"a tenth byte 80", strings.Repeat("\xff", 9) + "\x80\x01", 0},
	{"a tenth byte 81", strings.Repeat("\xff", 9) + "\x81\x01", 0},
	{"a tenth byte 81, an eleventh 0", strings.Repeat("\xff", 9) + "\x81\x00", 0},
	{"a long row of ff", strings.Repeat("\xff", 1000), 0},
	{"a long row of 80", strings.Repeat("\x80", 1000), 17},
}

// before, behind: what may stand beside a number's bytes.
var before = []string{"", "\x00", "\x80", "ab", "\xff\xff\xff", strings.Repeat("\x80", 20)}
var behind = []string{"", "\x00", "\x01", "\x80", "\xff\xff", "xyz"}

func TestP1_1PutIsItsBytes(t *testing.T) {
	for _, x := range numbers {
		if got := Put(x.n); got != x.s {
			t.Errorf("Put(%d): %x, not %x", x.n, got, x.s)
		}
	}
}

func TestP1_1GetIsTheNumberWhereverItStands(t *testing.T) {
	for _, x := range numbers {
		for _, a := range before {
			for _, b := range behind {
				n, size, ok := Get(a+x.s+b, len(a))
				if n != x.n || size != len(x.s) || !ok {
					t.Errorf("Get(%x, %d): %d, %d, %v, not %d, %d", a+x.s+b, len(a), n, size, ok, x.n, len(x.s))
				}
			}
		}
	}
}

func TestP1_1GetRefuses(t *testing.T) {
	for _, x := range noNumbers {
		if n, size, ok := Get(x.s, x.at); n != 0 || size != 0 || ok {
			t.Errorf("%s: Get(%x, %d): %d, %d, %v", x.name, x.s, x.at, n, size, ok)
		}
		if n, size, ok := GetInt(x.s, x.at); n != 0 || size != 0 || ok {
			t.Errorf("%s: GetInt(%x, %d): %d, %d, %v", x.name, x.s, x.at, n, size, ok)
		}
	}
}

func TestP1_1BytesThatLack(t *testing.T) {
	for _, x := range numbers {
		for k := range len(x.s) {
			if n, size, ok := Get("a"+x.s[:k], 1); n != 0 || size != 0 || ok {
				t.Errorf("%d of the bytes of %d: %d, %d, %v", k, x.n, n, size, ok)
			}
			if n, size, ok := GetInt("a"+x.s[:k], 1); n != 0 || size != 0 || ok {
				t.Errorf("%d of the bytes of %d, signed: %d, %d, %v", k, x.n, n, size, ok)
			}
		}
	}
}

func TestP1_1EveryTenthByte(t *testing.T) {
	for b := range 256 {
		s := strings.Repeat("\x80", 9) + string([]byte{byte(b)}) + "\x01"
		n, size, ok := Get(s, 0)
		if b == 1 && (n != 1<<63 || size != 10 || !ok) {
			t.Errorf("the tenth byte 1: %d, %d, %v", n, size, ok)
		}
		if b != 1 && (n != 0 || size != 0 || ok) {
			t.Errorf("the tenth byte %d: %d, %d, %v", b, n, size, ok)
		}
	}
}

func TestP1_1SignedNumbers(t *testing.T) {
	for _, x := range signed {
		if got := PutInt(x.n); got != x.s {
			t.Errorf("PutInt(%d): %x, not %x", x.n, got, x.s)
		}
		for _, a := range before {
			for _, b := range behind {
				n, size, ok := GetInt(a+x.s+b, len(a))
				if n != x.n || size != len(x.s) || !ok {
					t.Errorf("GetInt(%x, %d): %d, %d, %v, not %d, %d", a+x.s+b, len(a), n, size, ok, x.n, len(x.s))
				}
			}
		}
	}
}

// texts: each text beside its bytes.
func texts() map[string]string {
	return map[string]string{
		"":                          "\x00",
		"a":                         "\x01a",
		"\x00\xff":                  "\x02\x00\xff",
		"hedge\x80row":              "\x09hedge\x80row",
		strings.Repeat("l", 127):    "\x7f" + strings.Repeat("l", 127),
		strings.Repeat("\x80", 128): "\x80\x01" + strings.Repeat("\x80", 128),
		strings.Repeat("m", 300):    "\xac\x02" + strings.Repeat("m", 300),
		strings.Repeat("\xff", 1<<14): "\x80\x80\x01" +
			strings.Repeat("\xff", 1<<14),
	}
}

func TestP1_2PutTextIsLengthAndText(t *testing.T) {
	for text, want := range texts() {
		if got := PutText(text); got != want {
			t.Errorf("a text of %d bytes: %.20x.., not %.20x..", len(text), got, want)
		}
	}
}

func TestP1_2GetTextWhereverItStands(t *testing.T) {
	for text, s := range texts() {
		for _, a := range before {
			for _, b := range behind {
				for _, most := range []int{len(text), len(text) + 1, math.MaxInt} {
					got, size, ok := GetText(a+s+b, len(a), most)
					if got != text || size != len(s) || !ok {
						t.Errorf("a text of %d bytes, at %d, most %d: %.20q, %d, %v", len(text), len(a), most, got, size, ok)
					}
				}
			}
		}
	}
}

func refusesText(t *testing.T, why, s string, at, most int) {
	t.Helper()
	if got, size, ok := GetText(s, at, most); got != "" || size != 0 || ok {
		t.Errorf("%s: GetText(%.20x.., %d, %d): %.20q, %d, %v", why, s, at, most, got, size, ok)
	}
}

func TestP1_2TheLengthIsAboveMost(t *testing.T) {
	for text, s := range texts() {
		for _, most := range []int{len(text) - 1, -1, math.MinInt} {
			refusesText(t, "too long", s, 0, most)
			refusesText(t, "too long, further on", "ab"+s+"c", 2, most)
		}
	}
}

func TestP1_2BytesLack(t *testing.T) {
	for text, s := range texts() {
		for k := range min(len(s), 400) {
			refusesText(t, "cut off", s[:k], 0, len(text))
		}
		refusesText(t, "the last byte lacks", s[:len(s)-1], 0, math.MaxInt)
	}
	for _, n := range []uint64{4, 1 << 31, 1 << 32, 1<<63 - 1, 1 << 63, math.MaxUint64} {
		refusesText(t, "a length far above what is there", Put(n)+"abc", 0, math.MaxInt)
		refusesText(t, "likewise further on", "\xff\xff"+Put(n)+"abc", 2, math.MaxInt)
	}
}

func TestP1_2GetTextIsFalseWhereGetIs(t *testing.T) {
	for _, x := range noNumbers {
		for _, most := range []int{-1, 0, 1, 100, math.MaxInt} {
			refusesText(t, x.name, x.s, x.at, most)
		}
	}
	refusesText(t, "the length of two bytes where one would do", "\x81\x00a", 0, 9)
}

func TestP1_2TextIsNewMemory(t *testing.T) {
	s := PutText(strings.Repeat("n", 50))
	got, _, ok := GetText(s, 0, 50)
	if !ok || unsafe.StringData(got) == unsafe.StringData(s[1:]) {
		t.Error("the text shares the memory of what was handed in")
	}
}

// sameAsLibrary holds Get of s against another way to tell it: what encoding/binary
// reads, unless it writes that otherwise.
func sameAsLibrary(t *testing.T, s string) {
	t.Helper()
	want, wantSize := binary.Uvarint([]byte(s))
	wantOk := wantSize > 0 && string(binary.AppendUvarint(nil, want)) == s[:wantSize]
	if !wantOk {
		want, wantSize = 0, 0
	}
	n, size, ok := Get("\xff"+s, 1)
	if n != want || size != wantSize || ok != wantOk {
		t.Fatalf("Get(%x): %d, %d, %v, not %d, %d, %v", s, n, size, ok, want, wantSize, wantOk)
	}
	if !ok {
		return
	}
	if Put(n) != s[:size] {
		t.Fatalf("%x was got as %d and is put as %x", s[:size], n, Put(n))
	}
	if m, _, _ := GetInt(s, 0); PutInt(m) != s[:size] {
		t.Fatalf("%x was got as %d, signed, and is put as %x", s[:size], m, PutInt(m))
	}
	if text, size, ok := GetText(s, 0, math.MaxInt); ok && PutText(text) != s[:size] {
		t.Fatalf("%x was got as the text %x and is put otherwise", s[:size], text)
	}
}

func TestP1_3WhatIsGotIsPutAsItStood(t *testing.T) {
	for a := range 256 {
		sameAsLibrary(t, string([]byte{byte(a)}))
		for b := range 256 {
			sameAsLibrary(t, string([]byte{byte(a), byte(b)}))
			for _, c := range []byte{0, 1, 2, 0x7f, 0x80, 0x81, 0xff} {
				sameAsLibrary(t, string([]byte{byte(a), byte(b), c}))
			}
		}
	}
	source := rand.New(rand.NewSource(1))
	edges := []byte{0, 1, 2, 0x7f, 0x80, 0x81, 0xfe, 0xff}
	for range 200000 {
		s := make([]byte, source.Intn(13))
		for i := range s {
			s[i] = byte(source.Intn(256)) | 0x80
			if source.Intn(8) == 0 || i >= 8 {
				s[i] = edges[source.Intn(len(edges))]
			}
		}
		sameAsLibrary(t, string(s))
	}
}

// roundTrip puts n in all ways, with something beside it, and gets it again.
func roundTrip(t *testing.T, n uint64, a, b string) {
	t.Helper()
	s := Put(n)
	if got, size, ok := Get(a+s+b, len(a)); got != n || size != len(s) || !ok {
		t.Fatalf("%d was put, and got as %d, %d, %v", n, got, size, ok)
	}
	s = PutInt(int64(n))
	if got, size, ok := GetInt(a+s+b, len(a)); got != int64(n) || size != len(s) || !ok {
		t.Fatalf("%d was put, and got as %d, %d, %v", int64(n), got, size, ok)
	}
	if string(binary.AppendUvarint(nil, n)) != Put(n) || string(binary.AppendVarint(nil, int64(n))) != s {
		t.Fatalf("%d: %x, signed %x", n, Put(n), s)
	}
}

func TestP1_3WhatWasPutIsGot(t *testing.T) {
	for k := range 64 {
		for _, d := range []uint64{0, 1, 2, math.MaxUint64, math.MaxUint64 - 1} {
			roundTrip(t, uint64(1)<<k+d, "\x80", "\x80\x00")
			roundTrip(t, -(uint64(1)<<k + d), "", "")
		}
	}
	for n := range uint64(1 << 15) {
		roundTrip(t, n, "a", "\xff")
		roundTrip(t, -n, "a", "\xff")
	}
	source := rand.New(rand.NewSource(2))
	for range 100000 {
		roundTrip(t, source.Uint64()>>source.Intn(64), before[source.Intn(len(before))], behind[source.Intn(len(behind))])
	}
}

func TestP1_3OneBehindTheOther(t *testing.T) {
	all := ""
	for _, x := range numbers {
		all += Put(x.n) + PutInt(int64(x.n)) + PutText(strings.Repeat("\x80", int(x.n%200)))
	}
	at := 0
	for _, x := range numbers {
		n, size, ok := Get(all, at)
		at += size
		m, sizeInt, okInt := GetInt(all, at)
		at += sizeInt
		text, sizeText, okText := GetText(all, at, 200)
		at += sizeText
		if !ok || !okInt || !okText || n != x.n || m != int64(x.n) || text != strings.Repeat("\x80", int(x.n%200)) {
			t.Fatal(x.n, n, m, len(text), ok, okInt, okText)
		}
	}
	if at != len(all) {
		t.Error(at, len(all))
	}
}
