package log

import (
	"fmt"
	"math/rand"
	"slices"
	"strings"
	"testing"
	"unsafe"

	"hedgerow/api"
	"hedgerow/dev"
	"hedgerow/num"
)

// state is what a log has, told by its own calls; none is that of a device that
// nobody formatted.
type state struct {
	base    string
	records []string
	none    bool
}

func (s state) same(o state) bool {
	return s.base == o.base && s.none == o.none && slices.Equal(s.records, o.records)
}

func (s state) with(rec string) state {
	return state{base: s.base, records: append(slices.Clone(s.records), rec)}
}

// sectors is what the document says the state takes.
func (s state) sectors() int {
	n := len(s.base)/500 + 1
	for _, rec := range s.records {
		n += len(rec)/500 + 1
	}
	return n
}

func (s state) String() string {
	if s.none {
		return "nobody formatted it"
	}
	told := fmt.Sprintf("base %d %.8q", len(s.base), s.base)
	for _, rec := range s.records {
		told += fmt.Sprintf(", %d %.8q", len(rec), rec)
	}
	return told
}

func of(l *Log) state { return state{base: l.Base(), records: l.Records()} }

func text(n int, c byte) string { return strings.Repeat(string([]byte{c}), n) }

func device(t *testing.T, sectors int) *dev.Dev {
	t.Helper()
	d, err := dev.New(sectors)
	if err != api.OK {
		t.Fatal(sectors, err)
	}
	return d
}

func formatted(t *testing.T, sectors int, base string) (*dev.Dev, *Log) {
	t.Helper()
	d := device(t, sectors)
	l, err := Format(d, base)
	if err != api.OK || l == nil {
		t.Fatal(sectors, err)
	}
	return d, l
}

func ok(t *testing.T, errs ...api.Errno) {
	t.Helper()
	for i, err := range errs {
		if err != api.OK {
			t.Fatal("call", i, "told", err)
		}
	}
}

func opens(t *testing.T, d *dev.Dev, want state) *Log {
	t.Helper()
	l, err := Open(d)
	if err != api.OK || !of(l).same(want) {
		t.Fatal("opened", err, of(l), "want", want)
	}
	if room := (d.Sectors()-4)/2 - want.sectors(); l.Room() != room {
		t.Fatal("room", l.Room(), "want", room)
	}
	return l
}

// contents are all sectors, to tell whether a call changed one.
func contents(t *testing.T, d *dev.Dev) string {
	t.Helper()
	all := ""
	for at := range d.Sectors() {
		s, err := d.Read(at)
		ok(t, err)
		all += s
	}
	return all
}

// P5.1

func TestP5_1DevicesWithoutALog(t *testing.T) {
	for sectors := range 8 {
		var d *dev.Dev
		if sectors > 0 {
			d = device(t, sectors)
		}
		for _, base := range []string{"", "b", text(99999, 'b')} {
			if l, err := Format(d, base); l != nil || err != api.ErrArg {
				t.Error("Format", sectors, len(base), err)
			}
		}
		if l, err := Open(d); l != nil || err != api.ErrArg {
			t.Error("Open", sectors, err)
		}
		d.Arm(0)
		if l, err := Format(d, "b"); l != nil || err != api.ErrArg {
			t.Error("Format, down", sectors, err)
		}
		if l, err := Open(d); l != nil || err != api.ErrArg {
			t.Error("Open, down", sectors, err)
		}
		if d.Ops() != 0 {
			t.Error("operations", sectors, d.Ops())
		}
	}
}

func TestP5_1RoomByTheSectors(t *testing.T) {
	for _, c := range []struct{ sectors, room int }{{8, 2}, {9, 2}, {10, 3}, {11, 3}, {24, 10}, {25, 10}, {100, 48}, {8191, 4093}, {8192, 4094}} {
		d := device(t, c.sectors)
		full := text(c.room*500-1, 'f')
		for _, down := range []bool{false, true} {
			if down {
				d.Arm(0)
			}
			if l, err := Format(d, full+"f"); l != nil || err != api.ErrFull || d.Ops() != 0 {
				t.Error(c, "a byte too many", down, err)
			}
		}
		d.Arm(-1)
		l, err := Format(d, full)
		if err != api.OK || l.Room() != 0 || l.Base() != full || len(l.Records()) != 0 {
			t.Fatal(c, "just room", err)
		}
		d.Crash(nil)
		opens(t, d, state{base: full})
		if l, err := Format(d, ""); err != api.OK || l.Room() != c.room-1 || l.Base() != "" {
			t.Error(c, "empty", err, l.Room())
		}
	}
}

func TestP5_1SectorsOfATextByItsBytes(t *testing.T) {
	for n, takes := range map[int]int{0: 1, 1: 1, 499: 1, 500: 2, 501: 2, 999: 2, 1000: 3, 1499: 3, 1500: 4} {
		d, l := formatted(t, 24, text(n, 'b'))
		if l.Room() != 10-takes {
			t.Error("base", n, l.Room())
		}
		ok(t, l.Append(text(n, 'r')))
		if l.Room() != 10-2*takes {
			t.Error("record", n, l.Room())
		}
		ok(t, l.Flush())
		d.Crash(nil)
		opens(t, d, state{base: text(n, 'b'), records: []string{text(n, 'r')}})
	}
}

func TestP5_1FormatIsSafe(t *testing.T) {
	for _, keep := range [][]int{nil, {1, 1, 1, 1}, {0, 1}, {2, 300, 5}} {
		d, _ := formatted(t, 9, "base")
		d.Crash(keep)
		opens(t, d, state{base: "base"})
	}
}

func TestP5_1FormatAnew(t *testing.T) {
	d, l := formatted(t, 12, "old")
	for i := range 9 {
		ok(t, l.Append("record"), l.Append(text(500, 'r')))
		base := text(i*200, byte('a'+i))
		var err api.Errno
		if l, err = Format(d, base); err != api.OK || !of(l).same(state{base: base}) {
			t.Fatal(i, err, of(l))
		}
		d.Crash(nil)
		l = opens(t, d, state{base: base})
		if l, err = Format(d, ""); err != api.OK {
			t.Fatal(i, err)
		}
	}
}

func TestP5_1FormatOverWhatOthersWrote(t *testing.T) {
	r := rand.New(rand.NewSource(51))
	for round := range 300 {
		d := device(t, 8+round%5)
		scribble(t, r, d)
		if round%2 == 0 {
			ok(t, d.Flush())
		}
		l, err := Format(d, "base")
		ok(t, err, l.Append("a"), l.Flush())
		d.Crash(nil)
		l = opens(t, d, state{base: "base", records: []string{"a"}})
		ok(t, l.Replace(text(999, 'n')), l.Flush())
		d.Crash(nil)
		opens(t, d, state{base: text(999, 'n')})
	}
}

// scribble writes what a log may take for its own, and what it can't.
func scribble(t *testing.T, r *rand.Rand, d *dev.Dev) {
	t.Helper()
	for at := range d.Sectors() {
		s := make([]byte, api.Sector)
		for i := range s {
			switch r.Intn(3) {
			case 0:
				s[i] = byte(r.Intn(4))
			case 1:
				s[i] = byte(r.Intn(256))
			}
		}
		if r.Intn(4) == 0 {
			s = slices.Repeat([]byte{byte(r.Intn(256))}, api.Sector)
		}
		s[0] = []byte{0, 1, 1, 2, 2, 3, 255}[r.Intn(7)]
		ok(t, d.Write(at, string(s)))
	}
}

func TestP5_1OpenEndsWhateverOthersWrote(t *testing.T) {
	r := rand.New(rand.NewSource(52))
	for range 3000 {
		d := device(t, 8+r.Intn(6))
		scribble(t, r, d)
		l, err := Open(d)
		if (l == nil) != (err != api.OK) || err != api.OK && err != api.ErrForm {
			t.Fatal(err)
		}
		if l != nil && (l.Room() < 0 || of(l).sectors()+l.Room() != (d.Sectors()-4)/2) {
			t.Fatal("more than its room", of(l))
		}
	}
}

// TestP5_1OpenEndsAtPiecesThatCantBe: one that is too long, one that the next
// one lacks behind, one whose number has no end.
func TestP5_1OpenEndsAtPiecesThatCantBe(t *testing.T) {
	for _, bad := range []string{num.PutText(text(501, 'x')), num.PutText(text(500, 'x')), text(512, 0xff)} {
		d, l := formatted(t, 8, "base")
		ok(t, d.Write(l.sector(l.at.area, 0), bad+text(512-len(bad), 0)))
		if l, err := Open(d); l != nil || err != api.ErrForm {
			t.Error(len(bad), err)
		}
	}
}

func TestP5_1NobodyFormattedIt(t *testing.T) {
	for _, sectors := range []int{8, 9, 10, 24, 25, 8192} {
		d := device(t, sectors)
		for range 2 {
			if l, err := Open(d); l != nil || err != api.ErrForm {
				t.Error(sectors, err)
			}
			d.Crash(nil)
		}
		d.Arm(0)
		if l, err := Open(d); l != nil || err != api.ErrDown {
			t.Error("the device's error is told first", sectors, err)
		}
	}
}

func TestP5_1DeviceErrors(t *testing.T) {
	d := device(t, 8)
	d.Arm(0)
	if l, err := Format(d, "b"); l != nil || err != api.ErrDown {
		t.Error("Format", err)
	}
	d.Arm(-1)
	d.Refuse(1)
	if l, err := Format(d, "b"); l != nil || err != api.ErrBroken {
		t.Error("Format, refused", err)
	}
	_, err := Format(d, "b")
	ok(t, err)
	d.Arm(0)
	if l, err := Open(d); l != nil || err != api.ErrDown {
		t.Error("Open", err)
	}
	d.Arm(-1)
	opens(t, d, state{base: "b"})
}

func TestP5_1NilLog(t *testing.T) {
	var l *Log
	for _, s := range []string{"", "x", text(99999, 'x')} {
		if l.Append(s) != api.ErrArg || l.Replace(s) != api.ErrArg {
			t.Error(len(s))
		}
	}
	if l.Flush() != api.ErrArg || l.Base() != "" || len(l.Records()) != 0 || l.Room() != 0 {
		t.Error("nil")
	}
}

// P5.2

func TestP5_2AppendTakesJustTheRoom(t *testing.T) {
	d, l := formatted(t, 25, text(999, 'b'))
	want := state{base: text(999, 'b')}
	for i, n := range []int{0, 499, 500, 1} {
		ok(t, l.Append(text(n, 'r')))
		want = want.with(text(n, 'r'))
		if l.Room() != []int{7, 6, 4, 3}[i] || !of(l).same(want) {
			t.Error(n, l.Room(), of(l))
		}
	}
	for _, n := range []int{1500, 1501, 99999} {
		ops := d.Ops()
		if l.Append(text(n, 'w')) != api.ErrFull || l.Room() != 3 || !of(l).same(want) || d.Ops() != ops {
			t.Error("no room", n, l.Room(), of(l))
		}
	}
	ok(t, l.Append(text(1499, 'w')))
	want = want.with(text(1499, 'w'))
	if l.Room() != 0 || l.Append("") != api.ErrFull || !of(l).same(want) {
		t.Error("full", l.Room(), of(l))
	}
	ok(t, l.Flush())
	d.Crash(nil)
	l = opens(t, d, want)
	if l.Append("") != api.ErrFull {
		t.Error("full, opened")
	}
}

func TestP5_2EmptyRecordsTakeASectorEach(t *testing.T) {
	d, l := formatted(t, 64, "")
	want := state{}
	for range 29 {
		ok(t, l.Append(""))
		want = want.with("")
	}
	if l.Append("") != api.ErrFull {
		t.Error("a 30th")
	}
	ok(t, l.Flush())
	d.Crash(nil)
	opens(t, d, want)
}

func TestP5_2ReplaceAgainAndAgain(t *testing.T) {
	for _, sectors := range []int{8, 9, 24, 25} {
		d, l := formatted(t, sectors, "old")
		room := (sectors - 4) / 2
		for i := range 12 {
			full := text(room*500-1, byte('a'+i))
			ok(t, l.Replace(full))
			if !of(l).same(state{base: full}) || l.Room() != 0 {
				t.Fatal(sectors, i, of(l), l.Room())
			}
			if l.Replace(full+"x") != api.ErrFull || !of(l).same(state{base: full}) || l.Room() != 0 {
				t.Fatal(sectors, i, "a byte too many", of(l))
			}
			if i%3 > 0 {
				ok(t, l.Flush())
				d.Crash(nil)
				l = opens(t, d, state{base: full})
			}
			ok(t, l.Replace(""))
			for l.Room() > 0 {
				ok(t, l.Append("r"))
			}
			if len(l.Records()) != room-1 {
				t.Fatal(sectors, i, of(l))
			}
		}
	}
}

func TestP5_2FlushMakesAllSafe(t *testing.T) {
	d, l := formatted(t, 20, "b")
	ok(t, l.Append("1"), l.Append("2"), l.Flush(), l.Flush())
	d.Crash(nil)
	l = opens(t, d, state{base: "b", records: []string{"1", "2"}})
	ok(t, l.Replace("c"), l.Replace("d"), l.Append("3"), l.Flush())
	d.Crash(nil)
	opens(t, d, state{base: "d", records: []string{"3"}})
}

func TestP5_2ErrFullComesFirstAndLeavesItFit(t *testing.T) {
	d, l := formatted(t, 8, "b")
	d.Arm(0)
	if l.Append(text(500, 'x')) != api.ErrFull || l.Replace(text(1000, 'x')) != api.ErrFull {
		t.Error("without power")
	}
	d.Arm(-1)
	ok(t, l.Append("a"), l.Flush())
	d.Crash(nil)
	opens(t, d, state{base: "b", records: []string{"a"}})
}

// call is one of the calls that change a log.
type call struct {
	kind byte // A, R, F: Append, Replace, Flush. N: Format
	text string
}

func (c call) of(l *Log) api.Errno {
	switch c.kind {
	case 'A':
		return l.Append(c.text)
	case 'R':
		return l.Replace(c.text)
	}
	return l.Flush()
}

// makes is the state that the call makes of s.
func (c call) makes(s state) state {
	switch c.kind {
	case 'A':
		return s.with(c.text)
	case 'R', 'N':
		return state{base: c.text}
	}
	return s
}

// unfit asks all calls of a log that was told an error.
func unfit(t *testing.T, l *Log, was state, room int) {
	t.Helper()
	for _, s := range []string{"", "x", text(99999, 'x')} {
		if l.Append(s) != api.ErrDown || l.Replace(s) != api.ErrDown || l.Flush() != api.ErrDown {
			t.Fatal("unfit", len(s))
		}
	}
	if !of(l).same(was) || l.Room() != room {
		t.Fatal("it stays", was, "not", of(l), l.Room())
	}
}

func TestP5_2EachTellsTheDevicesError(t *testing.T) {
	for _, c := range []call{{'A', "a"}, {'R', "r"}, {'F', ""}} {
		d, l := formatted(t, 12, "b")
		d.Arm(0)
		if err := c.of(l); err != api.ErrDown {
			t.Error(string(c.kind), err)
		}
		unfit(t, l, state{base: "b"}, 3)
	}
	for _, c := range []call{{'A', "a"}, {'R', "r"}} {
		d, l := formatted(t, 12, "b")
		d.Refuse(1)
		if err := c.of(l); err != api.ErrBroken {
			t.Error(string(c.kind), err)
		}
		unfit(t, l, state{base: "b"}, 3)
	}
}

// TestP5_2Unfit: a fault at each operation of each call; then the log is unfit,
// even if the power is there again, and the one that is opened anew is not.
func TestP5_2Unfit(t *testing.T) {
	for _, c := range []call{{'A', text(600, 'a')}, {'R', text(1100, 'r')}, {'F', ""}} {
		for _, back := range []bool{false, true} {
			down := faults(t, c, back, api.ErrDown, func(d *dev.Dev, n int) { d.Arm(n - 1) })
			broken := faults(t, c, back, api.ErrBroken, (*dev.Dev).Refuse)
			if down == 0 || broken == 0 && c.kind != 'F' {
				t.Error("no fault", string(c.kind), down, broken)
			}
		}
	}
}

// faults counts at how many operations the call was told an error. back: the
// power is there again ahead of what the log is asked.
func faults(t *testing.T, c call, back bool, want api.Errno, fault func(*dev.Dev, int)) int {
	t.Helper()
	was := state{base: "b", records: []string{"1", text(700, '2')}}
	for n := 1; ; n++ {
		d, l := formatted(t, 24, "b")
		ok(t, l.Append("1"), l.Append(text(700, '2')))
		fault(d, n)
		err := c.of(l)
		if err == api.OK {
			return n - 1
		}
		if err != want {
			t.Fatal(string(c.kind), n, err)
		}
		if !back {
			unfit(t, l, was, 6)
		}
		d.Arm(-1)
		unfit(t, l, was, 6)
		anew, err := Open(d)
		ok(t, err)
		unfit(t, l, was, 6)
		now := of(anew)
		if !now.same(was) && !now.same(c.makes(was)) {
			t.Fatal(string(c.kind), n, now)
		}
		ok(t, anew.Append("z"), anew.Flush())
		d.Crash(nil)
		opens(t, d, now.with("z"))
	}
}

// P5.3

// life is what becomes of a device: calls, of which each ends well till the
// power fails or a write is refused, and the states that a crash may leave.
type life struct {
	d   *dev.Dev
	l   *Log
	now state
	may []state
}

func newLife(t *testing.T, sectors int) *life {
	nobody := state{none: true}
	return &life{d: device(t, sectors), now: nobody, may: []state{nobody}}
}

// does makes a call, and tells whether all was well.
func (v *life) does(t *testing.T, c call) bool {
	t.Helper()
	var err api.Errno
	var l *Log
	if c.kind == 'N' {
		if l, err = Format(v.d, c.text); err == api.OK {
			v.l = l
		}
	} else {
		err = c.of(v.l)
	}
	next := c.makes(v.now)
	if err != api.OK {
		if err != api.ErrDown && err != api.ErrBroken {
			t.Fatal(string(c.kind), len(c.text), err)
		}
		v.may = append(v.may, next)
		return false
	}
	if c.kind == 'N' || c.kind == 'F' {
		v.may = nil
	}
	v.now, v.may = next, append(v.may, next)
	if !of(v.l).same(v.now) {
		t.Fatal("it has", of(v.l), "want", v.now)
	}
	return true
}

func (v *life) runs(t *testing.T, script []call) bool {
	t.Helper()
	for _, c := range script {
		if !v.does(t, c) {
			return false
		}
	}
	return true
}

// opened is the state that is found on the device.
func opened(t *testing.T, d *dev.Dev) state {
	t.Helper()
	l, err := Open(d)
	switch err {
	case api.OK:
		return of(l)
	case api.ErrForm:
		return state{none: true}
	}
	t.Fatal("Open told", err)
	return state{}
}

// survives crashes the device and opens it: one of the states that may be is
// there, and behind a crash at each of Open's own operations it still is.
func (v *life) survives(t *testing.T, keep []int) state {
	t.Helper()
	v.d.Crash(keep)
	got := opened(t, v.d)
	if !slices.ContainsFunc(v.may, got.same) {
		t.Fatal("kept", keep, "found", got, "may be", v.may)
	}
	for n := range 3 {
		v.d.Arm(n)
		if _, err := Open(v.d); n == 0 && err != api.ErrDown {
			t.Fatal("without power", err)
		}
		v.d.Crash(slices.Repeat([]int{1 - n}, 9))
		if again := opened(t, v.d); !again.same(got) {
			t.Fatal("kept", keep, "found", got, "and then", again)
		}
	}
	return got
}

// keeps are ways to keep what is held back: all of them in turn while it is
// little, else each write for itself, while the others are there or are not.
func keeps(held int) [][]int {
	ways := []int{0, 1, 2, 3, 4, 130, 513}
	if held > 2 {
		ways = []int{0, 1, 3, 300}
	}
	if held > 4 {
		return keepsInTurn(held)
	}
	all := [][]int{nil}
	for range held {
		var longer [][]int
		for _, keep := range all {
			for _, w := range ways {
				longer = append(longer, append(slices.Clone(keep), w))
			}
		}
		all = longer
	}
	return all
}

func keepsInTurn(held int) [][]int {
	var all [][]int
	for _, others := range []int{0, 1, 4, 400} {
		for k := range held {
			for _, w := range []int{0, 1, 2, 3, 257, 513} {
				keep := slices.Repeat([]int{others}, held)
				keep[k] = w
				all = append(all, keep)
			}
		}
	}
	return all
}

// crashes runs the script behind what went ahead of it, again and again, with a
// fault at each of its operations in turn, and with all that a crash may keep.
func crashes(t *testing.T, sectors int, ahead, script []call, refuse bool) {
	t.Helper()
	start := func(n int) (*life, bool) {
		v := newLife(t, sectors)
		if !v.runs(t, ahead) {
			t.Fatal("ahead")
		}
		if refuse {
			v.d.Refuse(n)
		} else {
			v.d.Arm(n - 1)
		}
		return v, v.runs(t, script)
	}
	for n := 1; ; n++ {
		v, done := start(n)
		for _, keep := range keeps(v.d.Held()) {
			v, _ = start(n)
			v.survives(t, keep)
		}
		if done {
			return
		}
	}
}

// scripts: behind the first calls come those at which the power fails.
func scripts() map[string][2][]call {
	long, just := text(1200, 'l'), text(999, 'j')
	some := []call{{'N', "old"}, {'A', "one"}, {'F', ""}, {'A', "two"}}
	return map[string][2][]call{
		"Format":                {nil, {{'N', "base"}}},
		"Format, long":          {nil, {{'N', long}}},
		"Format anew":           {some, {{'N', "base"}}},
		"Format anew, replaced": {append(slices.Clone(some), call{'R', just}), {{'N', long}, {'N', just}}},
		"Append":                {some, {{'A', "three"}, {'A', ""}, {'A', text(500, 'r')}, {'F', ""}, {'A', long}}},
		"Replace":               {some, {{'R', "1"}, {'R', just}, {'R', "3"}, {'R', just}}},
		"Replace and flush":     {some, {{'R', just}, {'F', ""}, {'R', long}, {'F', ""}}},
		"all": {some, {{'A', "3"}, {'R', "new"}, {'A', "4"}, {'A', "5"}, {'F', ""}, {'A', "6"}, {'R', "newer"},
			{'A', "7"}, {'F', ""}, {'F', ""}, {'R', ""}, {'A', ""}}},
	}
}

func TestP5_3CrashAtEachOperation(t *testing.T) {
	for name, s := range scripts() {
		for _, refuse := range []bool{false, true} {
			t.Run(fmt.Sprint(name, refuse), func(t *testing.T) { crashes(t, 27, s[0], s[1], refuse) })
		}
	}
}

func TestP5_3CrashOfTheLeastDevices(t *testing.T) {
	ahead := []call{{'N', text(999, 'a')}}
	script := []call{{'R', text(999, 'b')}, {'R', "c"}, {'A', "d"}, {'R', ""}, {'A', text(499, 'e')}, {'F', ""}, {'R', text(999, 'f')}, {'N', "g"}}
	for _, sectors := range []int{8, 9} {
		crashes(t, sectors, ahead, script, false)
		crashes(t, sectors, ahead, script, true)
	}
}

// TestP5_3WhatLooksLikeALog: the texts are what the log itself writes, and zeros.
func TestP5_3WhatLooksLikeALog(t *testing.T) {
	d, l := formatted(t, 20, "base")
	ok(t, l.Append("one"), l.Replace("two"), l.Append("three"), l.Flush())
	var own []string
	for at := range d.Sectors() {
		s, err := d.Read(at)
		ok(t, err)
		own = append(own, s[:499], s)
	}
	own = append(own, "", text(499, 0), text(500, 0), text(1200, 0), text(999, 1), text(999, 2))
	for i, s := range own {
		ahead := []call{{'N', s}, {'A', own[(i+1)%len(own)]}, {'F', ""}, {'R', s}}
		script := []call{{'A', s}, {'R', own[(i+2)%len(own)]}, {'A', ""}}
		crashes(t, 24, ahead, script, false)
	}
}

// TestP5_3OpenWithoutACrash: what is found is one of the states, and safe.
func TestP5_3OpenWithoutACrash(t *testing.T) {
	for _, keep := range [][]int{nil, {1, 1, 1, 1, 1, 1}, {2, 2, 2}, {9, 1, 0, 9}} {
		v := newLife(t, 24)
		script := []call{{'N', "b"}, {'A', "1"}, {'F', ""}, {'A', "2"}, {'R', "c"}, {'A', "3"}}
		for n := range script {
			v.does(t, script[n])
			got := opened(t, v.d)
			if !slices.ContainsFunc(v.may, got.same) {
				t.Fatal(n, got, "may be", v.may)
			}
			v.d.Crash(keep)
			v.l = opens(t, v.d, got)
			v.now, v.may = got, []state{got}
		}
	}
}

// TestP5_3LongLife: one device goes through calls, faults and crashes by chance.
func TestP5_3LongLife(t *testing.T) {
	for seed := range int64(60) {
		r := rand.New(rand.NewSource(seed))
		v := newLife(t, 8+r.Intn(30))
		for range 150 {
			v.step(t, r)
		}
	}
}

func (v *life) step(t *testing.T, r *rand.Rand) {
	t.Helper()
	switch r.Intn(6) {
	case 0:
		v.d.Arm(r.Intn(12))
	case 1:
		v.d.Refuse(1 + r.Intn(8))
	}
	well := true
	if v.now.none {
		well = v.does(t, v.fitting(call{'N', v.someText(r)}))
	}
	for range r.Intn(8) {
		if well {
			well = v.does(t, v.fitting(call{"AAARFFN"[r.Intn(7)], v.someText(r)}))
		}
	}
	v.comesBack(t, r)
}

// fitting shortens the call's text till it has room; where none has, it is Flush.
func (v *life) fitting(c call) call {
	for c.makes(v.now).sectors() > (v.d.Sectors()-4)/2 {
		if len(c.text) < 500 {
			return call{kind: 'F'}
		}
		c.text = c.text[:len(c.text)-500]
	}
	return c
}

func (v *life) someText(r *rand.Rand) string {
	n := []int{0, 1, 498, 499, 500, 501, 999, 1000, r.Intn(3000)}[r.Intn(9)]
	switch r.Intn(3) {
	case 0:
		return text(n, byte(r.Intn(4)))
	case 1:
		// A piece of what the log wrote; nothing, if the power is gone.
		s, _ := v.d.Read(r.Intn(v.d.Sectors()))
		return strings.Repeat(s, n/api.Sector+1)[:min(n, len(s)*(n/api.Sector+1))]
	}
	b := make([]byte, n)
	r.Read(b)
	return string(b)
}

// comesBack opens the device behind a crash, or without one.
func (v *life) comesBack(t *testing.T, r *rand.Rand) {
	t.Helper()
	var got state
	if r.Intn(4) == 0 {
		v.d.Arm(-1)
		v.d.Refuse(0)
		if got = opened(t, v.d); !slices.ContainsFunc(v.may, got.same) {
			t.Fatal("without a crash", got, "may be", v.may)
		}
	} else {
		var keep []int
		for range r.Intn(12) {
			keep = append(keep, []int{0, 1, 2 + r.Intn(512), r.Intn(6)}[r.Intn(4)])
		}
		got = v.survives(t, keep)
	}
	v.now, v.may = got, []state{got}
	if !got.none {
		v.l = opens(t, v.d, got)
	}
}

// P5.4

func TestP5_4WhatWasSafeIsThere(t *testing.T) {
	for _, way := range []int{0, 1, 2, 3, 4, 12, 256, 513, 514, -1} {
		d, l := formatted(t, 30, "b")
		keep := slices.Repeat([]int{way}, 20)
		safe := []string{}
		for i := range 5 {
			ok(t, l.Append(string(rune('a'+i))), l.Flush())
			safe = append(safe, string(rune('a'+i)))
			ok(t, l.Append("maybe"))
			d.Crash(keep)
			var err api.Errno
			l, err = Open(d)
			ok(t, err)
			got := l.Records()
			if l.Base() != "b" || len(got) < len(safe) || !slices.Equal(got[:len(safe)], safe) || len(got) > len(safe)+1 {
				t.Fatal(way, i, got)
			}
			safe = got
		}
	}
}

func TestP5_4ExampleOfTheDocument(t *testing.T) {
	for _, way := range []int{0, 1, 2, 3, 513} {
		d, l := formatted(t, 8, "")
		d2, l2 := formatted(t, 30, "")
		ok(t, l.Append("a"), l.Flush(), l2.Append("a"), l2.Flush(), l2.Append("b"))
		if l.Append("b") != api.ErrFull {
			t.Error("8 sectors have no room for b")
		}
		d.Crash(slices.Repeat([]int{way}, 9))
		opens(t, d, state{records: []string{"a"}})
		d2.Crash(slices.Repeat([]int{way}, 9))
		if got := opened(t, d2).records; !slices.Equal(got, []string{"a"}) && !slices.Equal(got, []string{"a", "b"}) {
			t.Error(way, got)
		}
	}
}

// DOC.md, rule 2

func TestP5_2AnswersAreNewMemory(t *testing.T) {
	base, rec := text(700, 'b'), text(600, 'r')
	d, l := formatted(t, 20, base)
	ok(t, l.Append(rec), l.Append("s"), l.Flush())
	for _, l := range []*Log{l, opens(t, d, of(l))} {
		told := []string{base, rec, l.Base(), l.Base()}
		for range 2 {
			told = append(told, l.Records()...)
		}
		seen := map[*byte]int{}
		for i, s := range told {
			if was, found := seen[unsafe.StringData(s)]; found {
				t.Error("shared", was, i)
			}
			seen[unsafe.StringData(s)] = i
		}
		got := l.Records()
		got[0], got = "changed", append(got, "more")
		more := append(l.Records()[:2:2], "spare")
		if !slices.Equal(l.Records(), []string{rec, "s"}) || len(more) != 3 {
			t.Error("the log's own records changed")
		}
	}
}

func TestP5_1AnswersChangeNothing(t *testing.T) {
	d, l := formatted(t, 20, "b")
	ok(t, l.Append("a"))
	was, held, ops := contents(t, d), d.Held(), d.Ops()
	for range 3 {
		l.Base()
		l.Records()
		l.Room()
	}
	if contents(t, d) != was || d.Held() != held || d.Ops() != ops {
		t.Error("the device changed")
	}
}
