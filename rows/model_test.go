package rows

import (
	"fmt"
	"maps"
	"math"
	"math/rand"
	"slices"
	"testing"

	"hedgerow/api"
	"hedgerow/dev"
	"hedgerow/pool"
)

// model: rows, and the room that their pieces take, worked with as the chapters say
// it. Of a piece's bytes it knows only how many they are.
type model struct {
	sectors, frames int
	rows            map[int64]string
	places          map[int64][]int
	lengths         map[int]int // of the heap's rows by their places
}

func newModel(sectors, frames int) *model {
	return &model{sectors: sectors, frames: frames, rows: map[int64]string{}, places: map[int64][]int{}, lengths: map[int]int{}}
}

// fits: whether a page has room, if a row of so many bytes stands at place.
func (m *model) fits(place, length int) bool {
	greatest, sum := place%128, length
	for slot := range 128 {
		if n, there := m.lengths[place/128*128+slot]; there {
			greatest = max(greatest, slot)
			sum += n
		}
	}
	return 4+4*(greatest+1)+sum <= 512
}

// insert: the place that the heap has for a row; 0, if it has none.
func (m *model) insert(length int) int {
	for at := 1; at < m.sectors; at++ {
		place := at * 128
		for {
			if _, there := m.lengths[place]; !there {
				break
			}
			place++
		}
		if m.fits(place, length) {
			m.lengths[place] = length
			return place
		}
	}
	return 0
}

func (m *model) Put(id int64, text string) api.Errno {
	_, there := m.rows[id]
	switch {
	case id < 1 || id > api.MaxId:
		return api.ErrArg
	case len(text) > 4000:
		return api.ErrLong
	case !there && len(m.rows) == 4096:
		return api.ErrMany
	case m.frames == 1 && m.sectors > 1:
		return api.ErrPinned
	}
	was := maps.Clone(m.lengths)
	var placed []int
	for _, p := range split(id, text) {
		place := m.insert(len(p.bytes()))
		if place == 0 {
			m.lengths = was
			return api.ErrFull
		}
		placed = append(placed, place)
	}
	m.drop(id)
	m.rows[id], m.places[id] = text, placed
	return api.OK
}

func (m *model) drop(id int64) {
	for _, place := range m.places[id] {
		delete(m.lengths, place)
	}
	delete(m.rows, id)
	delete(m.places, id)
}

func (m *model) Delete(id int64) api.Errno {
	if _, there := m.rows[id]; !there {
		return api.ErrNone
	}
	if m.frames == 1 {
		return api.ErrPinned
	}
	m.drop(id)
	return api.OK
}

func (m *model) Get(id int64) (string, api.Errno) {
	text, there := m.rows[id]
	if !there {
		return "", api.ErrNone
	}
	return text, api.OK
}

func (m *model) Ids() []int64 { return slices.Sorted(maps.Keys(m.rows)) }

func (m *model) Pieces(id int64) int {
	text, there := m.rows[id]
	if !there {
		return 0
	}
	return len(text)/360 + 1
}

// rowed: what rows can do, and the model.
type rowed interface {
	Put(id int64, text string) api.Errno
	Delete(id int64) api.Errno
	Get(id int64) (string, api.Errno)
	Ids() []int64
	Pieces(id int64) int
}

// The kinds of calls of a script: those of rows, those of their pool, and New.
const (
	put = iota
	remove
	get
	ids
	pieces
	flush
	evict
	again
)

type call struct {
	kind int
	id   int64
	text string
}

func (c call) String() string {
	name := []string{"Put", "Delete", "Get", "Ids", "Pieces", "Flush", "Evict", "New"}[c.kind]
	if c.kind == put {
		return fmt.Sprintf("%s(%d, %s)", name, c.id, short(c.text))
	}
	return fmt.Sprintf("%s(%d)", name, c.id)
}

// told is what a call of rows answers.
type told struct {
	text string
	ids  []int64
	n    int
	err  api.Errno
}

func (a told) String() string {
	return fmt.Sprintf("text %s, ids %v, pieces %d, error %d", short(a.text), a.ids, a.n, a.err)
}

func does(r rowed, c call) told {
	var a told
	switch c.kind {
	case put:
		a.err = r.Put(c.id, c.text)
	case remove:
		a.err = r.Delete(c.id)
	case get:
		a.text, a.err = r.Get(c.id)
	case ids:
		a.ids = r.Ids()
	case pieces:
		a.n = r.Pieces(c.id)
	}
	return a
}

// pair: rows and a model that are told the same.
type pair struct {
	d     *dev.Dev
	p     *pool.Pool
	r     *Rows
	m     *model
	calls []call
}

func twice(t *testing.T, sectors, frames int) *pair {
	t.Helper()
	d, p, r := fresh(t, sectors, frames)
	return &pair{d: d, p: p, r: r, m: newModel(sectors, frames)}
}

// step makes a call twice, and holds the answers against each other.
func (x *pair) step(t *testing.T, c call) {
	t.Helper()
	x.calls = append(x.calls, c)
	switch c.kind {
	case flush:
		x.p.Flush()
	case evict:
		x.p.Evict(int(c.id))
	case again:
		x.r = anew(t, x.p)
	default:
		x.hold(t, does(x.r, c), does(x.m, c))
	}
	nothingPinned(t, x.p)
}

func (x *pair) hold(t *testing.T, got, want told) {
	t.Helper()
	if got.text != want.text || got.n != want.n || got.err != want.err || !slices.Equal(got.ids, want.ids) {
		t.Fatalf("%d sectors, %d frames, %v:\n%v; want\n%v", x.m.sectors, x.m.frames, x.calls, got, want)
	}
}

// whole holds all that rows tell, and what their heap has, against the model.
func (x *pair) whole(t *testing.T) {
	t.Helper()
	why := fmt.Sprintf("%d sectors, %d frames, %v", x.m.sectors, x.m.frames, x.calls)
	hasBoth(t, why, x.p, x.r, x.m.rows)
	if got, want := places(t, x.p), slices.Sorted(maps.Keys(x.m.lengths)); !slices.Equal(got, want) {
		t.Fatalf("%s:\nplaces %v; want %v", why, got, want)
	}
	if t.Failed() {
		t.FailNow()
	}
}

// byOthers goes on with frames and rows that are made anew, of what was flushed.
func (x *pair) byOthers(t *testing.T, frames int) {
	t.Helper()
	if err := x.p.Flush(); err != api.OK {
		t.Fatal("Flush:", err)
	}
	x.d.Crash(nil)
	x.m.frames = frames
	x.p = pooled(t, x.d, frames)
	x.r = anew(t, x.p)
}

func TestP9_2AllShortScripts(t *testing.T) {
	var choices []call
	for i, n := range []int{0, 359, 360, 800} {
		choices = append(choices, call{kind: put, id: 1, text: text(n)}, call{kind: put, id: 2, text: like(byte('a'+i), n)})
	}
	choices = append(choices, call{kind: remove, id: 1}, call{kind: remove, id: 2})
	const length = 4
	for n := range int(math.Pow(float64(len(choices)), length)) {
		// Room for three pieces of 360 bytes, or for five.
		x := twice(t, 4+n%2*2, 2+n%3)
		for range length {
			x.step(t, choices[n%len(choices)])
			n /= len(choices)
		}
		x.whole(t)
	}
}

// anyText: of a length that is near to a bound, or of any.
func anyText(r *rand.Rand, most int) string {
	n := r.Intn(most)
	switch r.Intn(8) {
	case 0:
		n = lengths()[r.Intn(len(lengths()))]
	case 1, 2, 3:
		n = []int{0, 0, 1, 2, 80, 200, 359, 360, 361, 719, 720, 721}[r.Intn(12)]
	case 4:
		n = r.Intn(4100)
	}
	if r.Intn(2) == 0 {
		return text(n)
	}
	return like(byte(r.Intn(256)), n)
}

func anyId(r *rand.Rand) int64 {
	l := []int64{1, 2, 3, 4, 5, 6, 7, 8, 200, 1 << 20, 1 << 40, api.MaxId, 0, -1, api.MaxId + 1}
	return l[r.Intn(len(l))]
}

func anyCall(r *rand.Rand, most, grows int) call {
	switch n := r.Intn(100); {
	case n < grows:
		return call{kind: put, id: anyId(r), text: anyText(r, most)}
	case n < 70:
		return call{kind: remove, id: anyId(r)}
	case n < 75:
		return call{kind: get, id: anyId(r)}
	case n < 77:
		return call{kind: ids}
	case n < 79:
		return call{kind: pieces, id: anyId(r)}
	case n < 82:
		return call{kind: flush}
	case n < 85:
		return call{kind: again}
	}
	return call{kind: evict, id: int64(r.Intn(9) - 4)}
}

func TestP9_3AnyCallsAndRowsReadAnewBehindEach(t *testing.T) {
	const many = api.MaxFrames
	for seed := range 60 {
		r := rand.New(rand.NewSource(int64(seed)))
		sectors := []int{1, 2, 3, 5, 9, 14, 30, 60}[r.Intn(8)]
		all := []int{1, 2, 2, 3, 4, 7, many}
		x := twice(t, sectors, all[r.Intn(len(all))])
		most := []int{20, 400, 2000}[r.Intn(3)]
		for i := range 300 {
			// It fills and it empties, by turns.
			x.step(t, anyCall(r, most, []int{60, 25}[i/60%2]))
			x.whole(t)
			if i%50 == 49 {
				x.byOthers(t, all[r.Intn(len(all))])
				x.whole(t)
			}
		}
		x.byOthers(t, 2)
		for _, id := range x.m.Ids() {
			x.step(t, call{kind: remove, id: id})
		}
		x.whole(t)
	}
}

// script: calls that come by all that the chapter names, on a device of 14 sectors.
func script() []call {
	var l []call
	add := func(kind int, id int64, length int) {
		l = append(l, call{kind: kind, id: id, text: text(length)})
	}
	add(put, 1, 1000)
	add(put, 2, 20)
	add(put, api.MaxId, 720)
	add(get, 1, 0)
	add(flush, 0, 0)
	add(put, 1, 900)
	add(put, 3, 4000) // lacks room
	add(get, api.MaxId, 0)
	add(remove, 2, 0)
	add(put, 2, 359)
	add(put, 2, 4000) // lacks room
	add(evict, 0, 0)
	add(put, 1, 0)
	add(again, 0, 0)
	add(remove, api.MaxId, 0)
	add(get, 2, 0)
	add(put, 3, 2000)
	add(evict, 1, 0)
	add(flush, 0, 0)
	add(get, 3, 0)
	add(put, 3, 1500)
	add(remove, 2, 0)
	add(remove, 2, 0)
	add(put, 1, 361)
	add(remove, 3, 0)
	add(again, 0, 0)
	add(put, 1, 4000)
	add(remove, 1, 0)
	add(put, 0, 1)
	add(put, 1, 4001)
	add(ids, 0, 0)
	add(put, 5, 400)
	add(flush, 0, 0)
	return l
}

const scriptSectors = 14

// faulty makes a call of a pair whose device may fail, and tells whether it told
// that. Where it did, the rows that the call is not about are as they were.
func (x *pair) faulty(t *testing.T, c call, fault api.Errno) bool {
	t.Helper()
	x.calls = append(x.calls, c)
	switch c.kind {
	case flush:
		return x.p.Flush() == fault
	case evict:
		return x.p.Evict(int(c.id)) == fault
	case again:
		r, err := New(heaped(t, x.p))
		if (r == nil) != (err != api.OK) || err != api.OK && err != fault {
			t.Fatalf("%d frames, %v: rows %v, error %d", x.m.frames, x.calls, r != nil, err)
		}
		if err != api.OK {
			return true
		}
		x.r = r
		return false
	}
	got := does(x.r, c)
	nothingPinned(t, x.p)
	if got.err == fault {
		if got.text != "" || got.n != 0 || len(got.ids) != 0 {
			t.Fatalf("%d frames, %v: beside an error %v", x.m.frames, x.calls, got)
		}
		return true
	}
	x.hold(t, got, does(x.m, c))
	return false
}

// mended: the fault is over. Each row is there as it was, but for the one that the
// call was about: that is as it was, or as the call has it.
func (x *pair) mended(t *testing.T, c call) {
	t.Helper()
	x.d.Arm(-1)
	x.d.Refuse(0)
	was, errWas := x.m.Get(c.id)
	now, err := x.r.Get(c.id)
	if now != was || err != errWas {
		does(x.m, c)
	}
	has(t, fmt.Sprintf("%d frames, %v, mended", x.m.frames, x.calls), x.r, x.m.rows)
}

// onceMore makes a call that was told a fault, when that is over. No piece is left
// then that is no row's.
func (x *pair) onceMore(t *testing.T, c call) {
	t.Helper()
	x.hold(t, does(x.r, c), does(x.m, c))
	hasBoth(t, fmt.Sprintf("%d frames, %v, once more", x.m.frames, x.calls), x.p, x.r, x.m.rows)
	if t.Failed() {
		t.FailNow()
	}
}

// allFaults is whether any call of the script is told the fault that begin begins
// ahead of the n-th call.
func allFaults(t *testing.T, frames, n int, fault api.Errno, begin func(d *dev.Dev)) bool {
	t.Helper()
	x := twice(t, scriptSectors, frames)
	failed := false
	for i, c := range script() {
		if i == n {
			begin(x.d)
		}
		if !x.faulty(t, c, fault) {
			continue
		}
		failed = true
		if x.d.Down() {
			x.allWithoutPower(t, c)
		}
		if c.kind >= flush {
			x.d.Arm(-1)
			x.d.Refuse(0)
			hasBoth(t, "flushed, given up or read anew", x.p, x.r, x.m.rows)
			continue
		}
		x.mended(t, c)
		x.onceMore(t, c)
	}
	x.d.Arm(-1)
	x.d.Refuse(0)
	for _, id := range x.m.Ids() {
		deletes(t, x.r, id, api.OK)
	}
	hasBoth(t, "all deleted", x.p, x.r, nil)
	return failed
}

// allWithoutPower: whatever is called while the power is gone tells just that, or
// needs no page that is not held.
func (x *pair) allWithoutPower(t *testing.T, c call) {
	t.Helper()
	for range 2 {
		if !x.faulty(t, c, api.ErrDown) {
			t.Fatalf("%d frames, %v: what told that the power is gone does not any more", x.m.frames, x.calls)
		}
		for _, id := range []int64{1, 2, 3, api.MaxId} {
			if s, err := x.r.Get(id); err != api.OK && (s != "" || err != api.ErrDown && err != api.ErrNone) {
				t.Fatalf("%v: without power Get(%d): %s, error %d", x.calls, id, short(s), err)
			}
		}
		puts(t, x.r, 0, "", api.ErrArg)
		puts(t, x.r, 1, text(4001), api.ErrLong)
		if r, err := New(heaped(t, x.p)); (r == nil) != (err != api.OK) {
			t.Fatalf("%v: without power New: rows %v, error %d", x.calls, r != nil, err)
		}
		nothingPinned(t, x.p)
	}
}

func TestP9_1AFaultAtEachOperation(t *testing.T) {
	for _, frames := range []int{2, 3, 4, 20} {
		x := twice(t, scriptSectors, frames)
		for _, c := range script() {
			x.step(t, c)
		}
		ops, writes := x.d.Ops(), x.p.Writes()
		if writes < 8 {
			t.Errorf("%d frames: the script writes %d pages only", frames, writes)
		}
		for n := range ops + 2 {
			arm := func(d *dev.Dev) { d.Arm(n) }
			if failed := allFaults(t, frames, 0, api.ErrDown, arm); failed != (n < ops) {
				t.Errorf("%d frames, Arm(%d): failed %v", frames, n, failed)
			}
			refuse := func(d *dev.Dev) { d.Refuse(n) }
			if failed := allFaults(t, frames, 0, api.ErrBroken, refuse); failed != (n > 0 && n <= writes) {
				t.Errorf("%d frames, Refuse(%d): failed %v", frames, n, failed)
			}
		}
	}
}

// The fault begins ahead of each call: reads are told it, too.
func TestP9_1AFaultAheadOfEachCall(t *testing.T) {
	for _, frames := range []int{2, 3, 4, 20} {
		for n := range script() {
			for k := range 8 {
				allFaults(t, frames, n, api.ErrDown, func(d *dev.Dev) { d.Arm(k) })
				allFaults(t, frames, n, api.ErrBroken, func(d *dev.Dev) { d.Refuse(k) })
			}
		}
	}
}
