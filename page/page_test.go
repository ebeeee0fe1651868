package page

import (
	"fmt"
	"maps"
	"math"
	"math/rand"
	"slices"
	"strings"
	"testing"
	"unsafe"

	"hedgerow/api"
	"hedgerow/num"
)

// model: the rows of a page by their slots, worked with as the chapter says it.
type model map[int]string

func (m model) slots() []int { return slices.Sorted(maps.Keys(m)) }

// size: how many slots are there.
func (m model) size() int {
	n := 0
	for slot := range m {
		n = max(n, slot+1)
	}
	return n
}

func (m model) bytes() int {
	sum := 4 + 4*m.size()
	for _, row := range m {
		sum += len(row)
	}
	return sum
}

func (m model) lowest() int {
	slot := 0
	for {
		if _, there := m[slot]; !there {
			return slot
		}
		slot++
	}
}

func (m model) with(slot int, row string) model {
	other := maps.Clone(m)
	if other == nil {
		other = model{}
	}
	other[slot] = row
	return other
}

func (m model) without(slot int) model {
	other := maps.Clone(m)
	delete(other, slot)
	return other
}

func (m model) insert(row string) (model, int, api.Errno) {
	if len(row) > 400 {
		return m, 0, api.ErrLong
	}
	slot := m.lowest()
	if m.with(slot, row).bytes() > 512 {
		return m, 0, api.ErrFull
	}
	return m.with(slot, row), slot, api.OK
}

func (m model) put(slot int, row string) (model, api.Errno) {
	if _, there := m[slot]; !there {
		return m, api.ErrNone
	}
	if len(row) > 400 {
		return m, api.ErrLong
	}
	if m.with(slot, row).bytes() > 512 {
		return m, api.ErrFull
	}
	return m.with(slot, row), api.OK
}

func (m model) free() int {
	left := 512 - m.with(m.lowest(), "").bytes()
	return max(-1, min(left, 400))
}

func letters(n int) string { return strings.Repeat("x", n) }

// given: rows of a page, and how many bytes a row may have that Insert takes.
type given struct {
	name string
	m    model
	free int
}

// byHand: worked out by hand from the chapter.
var byHand = []given{
	{"no rows", nil, 400},
	{"an empty row", model{0: ""}, 400},
	{"a row of one byte", model{0: "a"}, 400},
	{"a row of 399 bytes", model{0: letters(399)}, 101},
	{"a row of 400 bytes", model{0: letters(400)}, 100},
	{"a row of 400 zeros", model{0: zeros(400)}, 100},
	{"a row of 99 bytes", model{0: letters(99)}, 400},
	{"a row of 100 bytes", model{0: letters(100)}, 400},
	{"a row of 101 bytes", model{0: letters(101)}, 399},
	{"three rows", model{0: "one", 1: "two", 2: "three"}, 400},
	{"rows of 126, 127 and 128 bytes", model{0: letters(126), 1: letters(127), 2: letters(128)}, 111},
	{"slot 0 is free", model{1: "two", 2: "three"}, 400},
	{"slot 1 is free", model{0: "one", 2: "three"}, 400},
	{"only slot 1 has a row, an empty one", model{1: ""}, 400},
	{"only slot 5 has a row", model{5: "six"}, 400},
	{"slots 0 and 9, and 83 bytes left", model{0: letters(385), 9: ""}, 83},
	{"slot 1 is free, and nothing left", model{0: letters(400), 2: letters(96)}, 0},
	{"slot 1 is free, and a byte left", model{0: letters(400), 2: letters(95)}, 1},
	{"two rows, and nothing left", model{0: letters(400), 1: letters(100)}, -1},
	{"two rows, and a byte left", model{0: letters(400), 1: letters(99)}, -1},
	{"two rows, and three bytes left", model{0: letters(400), 1: letters(97)}, -1},
	{"two rows, and just a slot left", model{0: letters(400), 1: letters(96)}, 0},
	{"two rows, and a slot and a byte left", model{0: letters(400), 1: letters(95)}, 1},
	{"126 empty rows", empties(126), 0},
	{"127 empty rows", empties(127), -1},
	{"only slot 126 has a row", model{126: ""}, 0},
	{"only slot 125 has a row", model{125: ""}, 4},
	{"only slot 125 has a row, of 4 bytes", model{125: "abcd"}, 0},
	{"126 rows, the last of 4 bytes", empties(125).with(125, "abcd"), -1},
	{"126 rows, the first of 1 byte", empties(126).with(0, "a"), -1},
	{"101 rows of one byte", ofOneByte(101), -1},
	{"rows of zeros", model{0: zeros(1), 1: zeros(2), 3: zeros(100)}, 389},
	{"rows of ff", model{0: "\xff", 1: strings.Repeat("\xff", 300), 2: "\xff\xff"}, 189},
	{"rows of all bytes", model{0: allBytes()[:200], 2: allBytes()[100:]}, 140},
}

// all: those by hand, and rows whose bytes look like what a page has itself,
// pieces of pages.
func all() []given {
	l := slices.Clone(byHand)
	for _, x := range byHand {
		p := made(x.m)
		for i, m := range []model{
			{0: p[:150], 1: p[:150], 2: p[:150]},
			{1: p[:40], 3: p[1:41], 4: p[2:42]},
			{0: p[512-400:]},
			{1: p[:400]},
		} {
			l = append(l, given{fmt.Sprintf("pieces of the page '%s', %d", x.name, i), m, m.free()})
		}
	}
	return l
}

func empties(n int) model {
	m := model{}
	for slot := range n {
		m[slot] = ""
	}
	return m
}

func ofOneByte(n int) model {
	m := model{}
	for slot := range n {
		m[slot] = string([]byte{byte(slot)})
	}
	return m
}

func allBytes() string {
	b := make([]byte, 256)
	for i := range b {
		b[i] = byte(i)
	}
	return string(b)
}

// must is what a call answers that can't be refused.
func must(p string, err api.Errno) string {
	if err != api.OK {
		panic(err)
	}
	return p
}

func inserted(p, row string) string {
	q, _, err := Insert(p, row)
	return must(q, err)
}

// made: a page of these rows, inserted in order, empty ones in place of those
// that are free, which are deleted in the end.
func made(m model) string {
	p := Empty()
	for slot := range m.size() {
		p = inserted(p, m[slot])
	}
	return only(p, m)
}

// only deletes what has no row in m.
func only(p string, m model) string {
	for _, slot := range Slots(p) {
		if _, there := m[slot]; !there {
			p = must(Delete(p, slot))
		}
	}
	return p
}

// ways: pages of the same rows in the same slots, each come about in another way.
func ways(m model) map[string]string {
	return map[string]string{
		"inserted in order":                       made(m),
		"put into empty rows, the last one first": madeByPut(m),
		"inserted anew, the last one first":       madeAnew(m),
		"among others, that are deleted":          madeAmongOthers(m),
		"each one longer, shorter and back":       madeByChanges(m),
	}
}

func madeByPut(m model) string {
	p := made(empties(m.size()))
	for slot := m.size() - 1; slot >= 0; slot-- {
		if row, there := m[slot]; there {
			p = must(Put(p, slot, row))
		}
	}
	return only(p, m)
}

// madeAnew: all slots below have empty rows, so the one that is deleted is the
// lowest free one.
func madeAnew(m model) string {
	p := made(empties(m.size()))
	for slot := m.size() - 1; slot >= 0; slot-- {
		if row, there := m[slot]; there {
			p = inserted(must(Delete(p, slot)), row)
		}
	}
	return only(p, m)
}

func madeAmongOthers(m model) string {
	p := made(m)
	for Free(p) >= 0 {
		p = inserted(p, letters(min(3, Free(p))))
	}
	return only(p, m)
}

func madeByChanges(m model) string {
	p := made(m)
	for slot, row := range m {
		p = must(Put(p, slot, ""))
		p = must(Put(p, slot, letters(len(row))))
		p = must(Put(p, slot, row[:len(row)/2]))
		p = must(Put(p, slot, row))
	}
	return p
}

// farSlots: numbers that are no slot of any page.
var farSlots = []int{-1, -2, -127, -128, 127, 128, 255, 256, 511, 512, 1 << 16, 1<<32 + 1, math.MaxInt - 1, math.MaxInt, math.MinInt, math.MinInt + 1}

// has holds a page against its rows, by every call that tells of it.
func has(t *testing.T, why, p string, m model) {
	t.Helper()
	if len(p) != api.Sector || !Good(p) {
		t.Fatalf("%s: no page: %x", why, p)
	}
	if got := Slots(p); !slices.Equal(got, m.slots()) {
		t.Errorf("%s: Slots %v, not %v", why, got, m.slots())
	}
	for slot := range 130 {
		row, there := m[slot]
		want := api.OK
		if !there {
			want = api.ErrNone
		}
		if got, err := Get(p, slot); got != row || err != want {
			t.Errorf("%s: Get(%d): %x, %d, not %x, %d", why, slot, got, err, row, want)
		}
	}
	if got := Free(p); got != m.free() {
		t.Errorf("%s: Free %d, not %d", why, got, m.free())
	}
}

// rowsOf: those of p, as Slots and Get tell them.
func rowsOf(p string) model {
	m := model{}
	for _, slot := range Slots(p) {
		m[slot] = must(Get(p, slot))
	}
	return m
}

func TestP6_1EmptyIsZeros(t *testing.T) {
	if p := Empty(); p != strings.Repeat("\x00", 512) {
		t.Errorf("%x", p)
	}
	has(t, "Empty", Empty(), nil)
}

func TestP6_1WhatIsMadeIsGood(t *testing.T) {
	for _, x := range all() {
		for way, p := range ways(x.m) {
			has(t, x.name+", "+way, p, x.m)
		}
	}
}

func TestP6_1TheSameRowsAreTheSamePage(t *testing.T) {
	for _, x := range all() {
		want := made(x.m)
		for way, p := range ways(x.m) {
			if p != want {
				t.Errorf("%s, %s: %x, not %x", x.name, way, p, want)
			}
		}
	}
}

func TestP6_1OtherRowsAreOtherPages(t *testing.T) {
	seen := map[string]model{}
	for _, x := range all() {
		p := made(x.m)
		if m, there := seen[p]; there && !maps.Equal(m, x.m) {
			t.Errorf("%s: the same page as that of %v", x.name, m)
		}
		seen[p] = x.m
	}
}

// isNone: every call must tell that p is no page, whatever else would be told.
func isNone(t *testing.T, why, p string) {
	t.Helper()
	if Good(p) {
		t.Errorf("%s: Good", why)
	}
	if l := Slots(p); len(l) != 0 {
		t.Errorf("%s: Slots %v", why, l)
	}
	if n := Free(p); n != -1 {
		t.Errorf("%s: Free %d", why, n)
	}
	for _, row := range []string{"", "a", letters(400), letters(401)} {
		if q, slot, err := Insert(p, row); q != "" || slot != 0 || err != api.ErrForm {
			t.Errorf("%s: Insert: %x, %d, %d", why, q, slot, err)
		}
	}
	for _, slot := range []int{0, 1, 126, 127, -1, math.MaxInt, math.MinInt} {
		if q, err := Put(p, slot, ""); q != "" || err != api.ErrForm {
			t.Errorf("%s: Put(%d): %x, %d", why, slot, q, err)
		}
		if q, err := Put(p, slot, letters(401)); q != "" || err != api.ErrForm {
			t.Errorf("%s: Put(%d) of 401 bytes: %x, %d", why, slot, q, err)
		}
		if q, err := Delete(p, slot); q != "" || err != api.ErrForm {
			t.Errorf("%s: Delete(%d): %x, %d", why, slot, q, err)
		}
		if row, err := Get(p, slot); row != "" || err != api.ErrForm {
			t.Errorf("%s: Get(%d): %x, %d", why, slot, row, err)
		}
	}
}

// filled: bytes with zeros behind them, as many as a page has.
func filled(s string) string { return s + strings.Repeat("\x00", 512-len(s)) }

// ended: likewise, with letters.
func ended(s string) string { return s + letters(512-len(s)) }

// head is how a slot of a row of n bytes begins.
func head(n int) string { return num.Put(uint64(n) + 1) }

func TestP6_1WhatIsNoPage(t *testing.T) {
	for _, x := range []struct{ name, p string }{
		{"nothing", ""},
		{"one byte", "\x00"},
		{"511 zeros", zeros(511)},
		{"513 zeros", zeros(513)},
		{"1024 zeros", zeros(1024)},
		{"a million zeros", zeros(1 << 20)},
		{"512 bytes ff", strings.Repeat("\xff", 512)},
		{"512 bytes 01", strings.Repeat("\x01", 512)},
		{"512 bytes 80", strings.Repeat("\x80", 512)},
		{"512 letters", letters(512)},
		{"a 1 in the last place", zeros(511) + "\x01"},
		{"a slot, and it is free", filled("\x01")},
		{"127 slots, all free", filled("\x7f")},
		{"the last slot is free", filled("\x02" + head(3) + "abc")},
		{"how many slots, of two bytes where one does", filled("\x81\x00" + head(0))},
		{"128 empty rows", filled("\x80\x01" + strings.Repeat(head(0), 128))},
		{"255 empty rows", filled("\xff\x01" + strings.Repeat(head(0), 255))},
		{"2^32 slots", filled(num.Put(1<<32) + head(0))},
		{"2^32 + 1 slots", filled(num.Put(1<<32+1) + head(0))},
		{"2^63 slots", filled(num.Put(1<<63) + head(0))},
		{"2^64 - 1 slots", filled(num.Put(math.MaxUint64) + head(0))},
		{"more than 2^64 slots", filled(strings.Repeat("\xff", 10) + head(0))},
		{"a head of two bytes where one does", filled("\x01\x84\x00abc")},
		{"a head 0 of two bytes", filled("\x02\x80\x00" + head(0))},
		{"a head above 2^64", filled("\x01" + strings.Repeat("\xff", 10))},
		{"a row of 401 bytes", filled("\x01" + head(401) + letters(401))},
		{"a row of 401 zeros", filled("\x01" + head(401))},
		{"a row of 508 bytes", filled("\x01" + head(508) + letters(508))},
		{"a row of 2^62 bytes", filled("\x01" + head(1<<62))},
		{"a row of 2^63 - 1 bytes", filled("\x01" + head(math.MaxInt))},
		{"a row of 2^64 - 2 bytes", filled("\x01" + num.Put(math.MaxUint64))},
		{"a row that ends a byte behind the page", ended("\x02" + head(300) + letters(300) + head(208))},
		{"a row that ends with the page", ended("\x02" + head(300) + letters(300) + head(207))},
		{"a head that ends behind the page", ended("\x03" + head(400) + letters(400) + head(106))[:510] + "\x80\x80"},
		{"slots that go on behind the page", ended("\x7f" + head(400) + letters(400) + head(108))},
		{"a byte behind the rows", filled("\x01" + head(3) + "abcd")},
		{"a byte further behind the rows", filled("\x01" + head(3) + "abc" + zeros(100) + "\x01")},
		{"a byte in the last place", filled("\x01" + head(3) + "abc")[:511] + "\x01"},
		{"rows with a byte too many", filled("\x02" + head(400) + letters(400) + head(101) + letters(101))},
		{"rows with a byte too many, and a free slot", filled("\x03" + head(400) + letters(400) + "\x00" + head(97) + letters(97))},
		{"127 rows, one of them of a byte", filled("\x7f" + strings.Repeat(head(0), 126) + head(1) + "a")},
	} {
		isNone(t, x.name, x.p)
	}
	for _, x := range all() {
		p := made(x.m)
		isNone(t, x.name+", without the last byte", p[:511])
		isNone(t, x.name+", without the first byte", p[1:])
		isNone(t, x.name+", with a zero behind", p+"\x00")
		isNone(t, x.name+", with a zero ahead", "\x00"+p)
		isNone(t, x.name+", twice", p+p)
	}
}

// isPageOrNone: what is told to be a page must be the one of the rows that it
// tells; else nothing may be told of it.
func isPageOrNone(t *testing.T, why, p string) bool {
	t.Helper()
	if !Good(p) {
		isNone(t, why, p)
		return false
	}
	m := rowsOf(p)
	if m.bytes() > 512 || slices.ContainsFunc(slices.Collect(maps.Values(m)), func(row string) bool { return len(row) > 400 }) {
		t.Errorf("%s: rows that no page may have: %v", why, m)
		return true
	}
	if q := made(m); q != p {
		t.Errorf("%s: good, yet the page of its rows is another: %x, %x", why, p, q)
	}
	return true
}

func TestP6_1EachByteChanged(t *testing.T) {
	good, bad := 0, 0
	for _, x := range byHand {
		p := made(x.m)
		steps := []byte{1, 0x80, 0xff}
		if x.m.size() > 10 {
			steps = steps[:1] // it takes long to make them anew
		}
		for i := range len(p) {
			for _, step := range steps {
				changed := p[:i] + string([]byte{p[i] + step}) + p[i+1:]
				why := fmt.Sprintf("%s, byte %d is %d, not %d", x.name, i, changed[i], p[i])
				if isPageOrNone(t, why, changed) {
					good++
				} else {
					bad++
				}
			}
		}
	}
	if good == 0 || bad == 0 {
		t.Errorf("%d pages, %d none", good, bad)
	}
}

func TestP6_1EveryBeginning(t *testing.T) {
	for a := range 256 {
		for b := range 256 {
			s := string([]byte{byte(a), byte(b)})
			isPageOrNone(t, fmt.Sprintf("%x and zeros", s), filled(s))
		}
	}
}

func TestP6_1RandomBytes(t *testing.T) {
	source := rand.New(rand.NewSource(61))
	likely := "\x00\x00\x01\x01\x02\x03\x04\x05\x7e\x7f\x80\x81\x90\x91\x92\x93\xff"
	good := 0
	for range 50000 {
		b := make([]byte, 1+source.Intn(12))
		for i := range b {
			b[i] = likely[source.Intn(len(likely))]
		}
		if isPageOrNone(t, fmt.Sprintf("%x and zeros", b), filled(string(b))) {
			good++
		}
	}
	if good < 100 {
		t.Errorf("only %d pages", good)
	}
}

func TestP6_2InsertByLengths(t *testing.T) {
	for _, n := range []int{0, 1, 2, 99, 126, 127, 128, 255, 256, 399, 400} {
		p, slot, err := Insert(Empty(), letters(n))
		if slot != 0 || err != api.OK {
			t.Errorf("%d bytes: %d, %d", n, slot, err)
		}
		has(t, fmt.Sprint(n, " bytes"), p, model{0: letters(n)})
	}
	for _, n := range []int{401, 402, 496, 500, 504, 505, 508, 512, 513, 1 << 20} {
		if p, slot, err := Insert(Empty(), letters(n)); p != "" || slot != 0 || err != api.ErrLong {
			t.Errorf("%d bytes: %x, %d, %d", n, p, slot, err)
		}
	}
}

// comesTo holds what a call told against the rows and the error that must come
// of it, and is the page to go on with: behind an error that of before.
func comesTo(t *testing.T, why, before, told string, err api.Errno, m model, want api.Errno) string {
	t.Helper()
	if err != want {
		t.Fatalf("%s: %d, not %d", why, err, want)
	}
	if err == api.OK {
		has(t, why, told, m)
		return told
	}
	if told != "" {
		t.Errorf("%s: %d, and yet %x", why, err, told)
	}
	return before
}

func inserts(t *testing.T, why, p string, m model, row string) (string, model) {
	t.Helper()
	why = fmt.Sprintf("%s: Insert of %d bytes", why, len(row))
	other, at, want := m.insert(row)
	q, slot, err := Insert(p, row)
	if slot != at {
		t.Errorf("%s: slot %d, not %d", why, slot, at)
	}
	return comesTo(t, why, p, q, err, other, want), other
}

func puts(t *testing.T, why, p string, m model, slot int, row string) (string, model) {
	t.Helper()
	why = fmt.Sprintf("%s: Put of %d bytes into slot %d", why, len(row), slot)
	other, want := m.put(slot, row)
	q, err := Put(p, slot, row)
	return comesTo(t, why, p, q, err, other, want), other
}

func deletes(t *testing.T, why, p string, m model, slot int) (string, model) {
	t.Helper()
	why = fmt.Sprintf("%s: Delete of slot %d", why, slot)
	want := api.OK
	if _, there := m[slot]; !there {
		want = api.ErrNone
	}
	other := m.without(slot)
	q, err := Delete(p, slot)
	return comesTo(t, why, p, q, err, other, want), other
}

func TestP6_2InsertWithJustTheRoom(t *testing.T) {
	for _, x := range all() {
		p := made(x.m)
		for _, n := range []int{0, 1, x.free - 1, x.free, x.free + 1, x.free + 2, x.free + 4, x.free + 5, 399, 400, 401, 512} {
			if n >= 0 {
				inserts(t, x.name, p, x.m, letters(n))
			}
		}
	}
}

func TestP6_2InsertTakesTheLowestFreeSlot(t *testing.T) {
	p := made(model{2: "c", 5: "f"})
	for _, want := range []int{0, 1, 3, 4, 6, 7} {
		var slot int
		var err api.Errno
		p, slot, err = Insert(p, "new")
		if slot != want || err != api.OK {
			t.Fatal(want, slot, err)
		}
	}
	has(t, "all", p, model{0: "new", 1: "new", 2: "c", 3: "new", 4: "new", 5: "f", 6: "new", 7: "new"})
}

func TestP6_2AsManyEmptyRowsAsAPageTakes(t *testing.T) {
	p := Empty()
	for i := range 127 {
		q, slot, err := Insert(p, "")
		if slot != i || err != api.OK {
			t.Fatal(i, slot, err)
		}
		p = q
	}
	has(t, "127 rows", p, empties(127))
	if q, slot, err := Insert(p, ""); q != "" || slot != 0 || err != api.ErrFull {
		t.Errorf("one more: %x, %d, %d", q, slot, err)
	}
	p = must(Delete(p, 64))
	if q, slot, err := Insert(p, "a"); q != "" || slot != 0 || err != api.ErrFull {
		t.Errorf("a byte in a free slot of 127: %x, %d, %d", q, slot, err)
	}
	if q, slot, err := Insert(p, ""); q != made(empties(127)) || slot != 64 || err != api.OK {
		t.Errorf("the free slot of 127: %x, %d, %d", q, slot, err)
	}
}

func TestP6_2Put(t *testing.T) {
	for _, x := range all() {
		p := made(x.m)
		for _, slot := range []int{0, 1, 2, 3, 5, 9, 125, 126} {
			now := len(x.m[slot])
			just := now + 512 - x.m.bytes()
			for _, n := range []int{0, 1, now - 1, now, now + 1, just - 1, just, just + 1, just + 4, 399, 400, 401, 512} {
				if n >= 0 {
					puts(t, x.name, p, x.m, slot, strings.Repeat("y", n))
				}
			}
		}
	}
}

func TestP6_2PutWithJustTheRoom(t *testing.T) {
	p := made(model{0: letters(300), 1: "abc", 3: letters(100)})
	// 4, 16 for four slots, and 403: 89 are left.
	if q, err := Put(p, 1, letters(92)); q != made(model{0: letters(300), 1: letters(92), 3: letters(100)}) || err != api.OK {
		t.Errorf("just the room: %d", err)
	}
	if q, err := Put(p, 1, letters(93)); q != "" || err != api.ErrFull {
		t.Errorf("one byte too few: %x, %d", q, err)
	}
	if q, err := Put(p, 0, ""); q != made(model{0: "", 1: "abc", 3: letters(100)}) || err != api.OK {
		t.Errorf("an empty row: %d", err)
	}
	if q, err := Put(p, 0, letters(389)); q != made(model{0: letters(389), 1: "abc", 3: letters(100)}) || err != api.OK {
		t.Errorf("a longer row: %d", err)
	}
	if q, err := Put(p, 0, letters(390)); q != "" || err != api.ErrFull {
		t.Errorf("a longer row, and a byte too few: %x, %d", q, err)
	}
}

func TestP6_2Delete(t *testing.T) {
	for _, x := range all() {
		p := made(x.m)
		for slot := range x.m.size() + 1 {
			if q, m := deletes(t, x.name, p, x.m, slot); q != made(m) {
				t.Errorf("%s: Delete of slot %d: not the page of the rows that are left", x.name, slot)
			}
		}
	}
}

func TestP6_2TheGreatestSlotTakesTheFreeOnesBelowAlong(t *testing.T) {
	p := made(model{0: letters(400), 20: "last"})
	if n := Free(p); n != 20 {
		t.Fatal(n)
	}
	p = must(Delete(p, 20))
	if n := Free(p); n != 100 || p != made(model{0: letters(400)}) {
		t.Error(n)
	}
}

func TestP6_2SlotsWithoutARow(t *testing.T) {
	for _, x := range all() {
		p := made(x.m)
		slots := append([]int{x.m.size(), x.m.lowest()}, farSlots...)
		for slot := range x.m.size() {
			slots = append(slots, slot)
		}
		for _, slot := range slots {
			if _, there := x.m[slot]; there {
				continue
			}
			for _, row := range []string{"", "a", letters(400), letters(401), letters(1000)} {
				if q, err := Put(p, slot, row); q != "" || err != api.ErrNone {
					t.Errorf("%s: Put(%d) of %d bytes: %x, %d", x.name, slot, len(row), q, err)
				}
			}
			if q, err := Delete(p, slot); q != "" || err != api.ErrNone {
				t.Errorf("%s: Delete(%d): %x, %d", x.name, slot, q, err)
			}
			if row, err := Get(p, slot); row != "" || err != api.ErrNone {
				t.Errorf("%s: Get(%d): %x, %d", x.name, slot, row, err)
			}
		}
	}
}

func TestP6_2WhichErrorIsTold(t *testing.T) {
	full := made(model{0: letters(400), 1: letters(100)})
	if _, _, err := Insert(full, letters(401)); err != api.ErrLong {
		t.Errorf("too long for a row, and for the page: %d", err)
	}
	if _, _, err := Insert(full, letters(400)); err != api.ErrFull {
		t.Errorf("too long for the page: %d", err)
	}
	if _, err := Put(full, 1, letters(401)); err != api.ErrLong {
		t.Errorf("Put: too long for a row, and for the page: %d", err)
	}
	if _, err := Put(full, 1, letters(400)); err != api.ErrFull {
		t.Errorf("Put: too long for the page: %d", err)
	}
	if _, err := Put(full, 2, letters(401)); err != api.ErrNone {
		t.Errorf("Put: no row there, and too long: %d", err)
	}
	if _, err := Put(full, 2, letters(400)); err != api.ErrNone {
		t.Errorf("Put: no row there, and no room: %d", err)
	}
}

func TestP6_2GetSharesNoMemory(t *testing.T) {
	p := made(model{0: "abc", 1: letters(400)})
	row := strings.Clone("abc")
	q := inserted(Empty(), row)
	for slot := range 2 {
		first, second := must(Get(p, slot)), must(Get(p, slot))
		at := strings.Index(p, first)
		for _, other := range []string{p[at:], second} {
			if unsafe.StringData(first) == unsafe.StringData(other) {
				t.Errorf("the row in slot %d shares its bytes", slot)
			}
		}
	}
	if unsafe.StringData(must(Get(q, 0))) == unsafe.StringData(row) {
		t.Error("what was inserted and what is got are one")
	}
	if unsafe.StringData(Empty()) == unsafe.StringData(Empty()) {
		t.Error("two empty pages are one")
	}
}

func TestP6_3SlotsAndFree(t *testing.T) {
	for _, x := range all() {
		p := made(x.m)
		if l := Slots(p); !slices.Equal(l, x.m.slots()) {
			t.Errorf("%s: Slots %v", x.name, l)
		}
		if n := Free(p); n != x.free {
			t.Errorf("%s: Free %d, not %d", x.name, n, x.free)
		}
	}
}

// TestP6_3FreeIsWhatInsertTakes: of every length.
func TestP6_3FreeIsWhatInsertTakes(t *testing.T) {
	for _, x := range all() {
		p := made(x.m)
		free := Free(p)
		for n := range 420 {
			want := api.OK
			if n > 400 {
				want = api.ErrLong
			} else if n > free {
				want = api.ErrFull
			}
			if _, _, err := Insert(p, letters(n)); err != want {
				t.Errorf("%s: Free %d, but Insert of %d bytes: %d", x.name, free, n, err)
			}
		}
	}
}

func TestP6_3SlotsSharesNoMemory(t *testing.T) {
	p := made(empties(5))
	first, second := Slots(p), Slots(p)
	for i := range first[:cap(first)] {
		first[:cap(first)][i] = 99
	}
	if !slices.Equal(second, []int{0, 1, 2, 3, 4}) || !slices.Equal(Slots(p), second) {
		t.Error(second, Slots(p))
	}
}

func TestExampleOfTheChapter(t *testing.T) {
	p, slot, err := Insert(Empty(), letters(400))
	if slot != 0 || err != api.OK || Free(p) != 100 {
		t.Error(slot, err, Free(p))
	}
}

func anyRow(source *rand.Rand) string {
	b := make([]byte, []int{0, 1, 2, 5, 20, 127, 128, 399, 400, 401}[source.Intn(10)]+source.Intn(2))
	if source.Intn(3) > 0 { // else of zeros
		source.Read(b)
	}
	return string(b)
}

// TestP6_4RowsThatAreNotTouchedStay: long scripts of calls, held against the
// model behind each of them.
func TestP6_4RowsThatAreNotTouchedStay(t *testing.T) {
	source := rand.New(rand.NewSource(64))
	for script := range 60 {
		why := fmt.Sprint("script ", script)
		p, m := Empty(), model{}
		for range 100 {
			slot := source.Intn(m.size()+2) - 1
			switch k := source.Intn(10); {
			case k < 5:
				p, m = inserts(t, why, p, m, anyRow(source))
			case k < 8:
				p, m = puts(t, why, p, m, slot, anyRow(source))
			default:
				p, m = deletes(t, why, p, m, slot)
			}
			has(t, why, p, m)
			if p != made(m) {
				t.Fatalf("%s: two pages of the same rows: %x, %x", why, p, made(m))
			}
		}
	}
}

func TestP6_4EachRowChangedAlone(t *testing.T) {
	for _, x := range all() {
		p := made(x.m)
		for _, slot := range x.m.slots() {
			for _, row := range []string{"", "z", x.m[slot] + "z", zeros(len(x.m[slot])), must(Get(p, slot))} {
				puts(t, x.name, p, x.m, slot, row)
			}
		}
		has(t, x.name+", as it was", p, x.m)
	}
}

func TestP6_5AllDeletedLeavesEmpty(t *testing.T) {
	source := rand.New(rand.NewSource(65))
	for _, x := range all() {
		rising := x.m.slots()
		falling := slices.Clone(rising)
		slices.Reverse(falling)
		mixed := slices.Clone(rising)
		source.Shuffle(len(mixed), func(i, k int) { mixed[i], mixed[k] = mixed[k], mixed[i] })
		for _, order := range [][]int{rising, falling, mixed} {
			p := made(x.m)
			for _, slot := range order {
				p = must(Delete(p, slot))
			}
			if p != Empty() || Free(p) != 400 || len(Slots(p)) != 0 {
				t.Errorf("%s, deleted in the order %v: %x", x.name, order, p)
			}
		}
	}
}
