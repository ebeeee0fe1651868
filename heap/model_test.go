package heap

import (
	"fmt"
	"maps"
	"math"
	"math/rand"
	"slices"
	"strings"
	"testing"

	"hedgerow/api"
	"hedgerow/dev"
	"hedgerow/pool"
)

// heaped: what the heap can do, and the model.
type heaped interface {
	Insert(row string) (int, api.Errno)
	Delete(place int) api.Errno
	Put(place int, row string) api.Errno
	Get(place int) (string, api.Errno)
	Places() ([]int, api.Errno)
	Pages() ([]int, api.Errno)
}

// model: rows by their places, worked with as the chapters say it. It knows no
// bytes of pages.
type model struct {
	sectors, frames int
	rows            map[int]string
}

func newModel(sectors, frames int) *model {
	return &model{sectors: sectors, frames: frames, rows: map[int]string{}}
}

// pages: how many pages may have rows, and page 0.
func (m *model) pages() int { return min(m.sectors, 4096) }

// fits: whether a page's rows have room, if row stands at place.
func (m *model) fits(place int, row string) bool {
	at, greatest, sum := place/128, place%128, len(row)
	for other, s := range m.rows {
		if other/128 == at && other != place {
			greatest = max(greatest, other%128)
			sum += len(s)
		}
	}
	return 4+4*(greatest+1)+sum <= 512
}

// lowest: the place of a page's lowest free slot.
func (m *model) lowest(at int) int {
	place := at * 128
	for {
		if _, there := m.rows[place]; !there {
			return place
		}
		place++
	}
}

func (m *model) Insert(row string) (int, api.Errno) {
	if len(row) > 400 {
		return 0, api.ErrLong
	}
	if m.frames == 1 && m.sectors > 1 {
		return 0, api.ErrPinned
	}
	for at := 1; at < m.pages(); at++ {
		if place := m.lowest(at); m.fits(place, row) {
			m.rows[place] = row
			return place, api.OK
		}
	}
	return 0, api.ErrFull
}

// alone: what Delete and Put tell ahead of all else.
func (m *model) alone(place int) api.Errno {
	if place < 128 || place/128 >= m.pages() || place%128 == 127 {
		return api.ErrNone
	}
	if m.frames == 1 {
		return api.ErrPinned
	}
	if _, there := m.rows[place]; !there {
		return api.ErrNone
	}
	return api.OK
}

func (m *model) Delete(place int) api.Errno {
	if err := m.alone(place); err != api.OK {
		return err
	}
	delete(m.rows, place)
	return api.OK
}

func (m *model) Put(place int, row string) api.Errno {
	err := m.alone(place)
	switch {
	case err != api.OK:
		return err
	case len(row) > 400:
		return api.ErrLong
	case !m.fits(place, row):
		return api.ErrFull
	}
	m.rows[place] = row
	return api.OK
}

func (m *model) Get(place int) (string, api.Errno) {
	row, there := m.rows[place]
	if !there {
		return "", api.ErrNone
	}
	return row, api.OK
}

func (m *model) Places() ([]int, api.Errno) {
	return slices.Sorted(maps.Keys(m.rows)), api.OK
}

func (m *model) Pages() ([]int, api.Errno) {
	var l []int
	for place := range m.rows {
		l = append(l, place/128)
	}
	slices.Sort(l)
	return slices.Compact(l), api.OK
}

// bits: what page 0 must be.
func (m *model) bits() string {
	b := make([]byte, 512)
	l, _ := m.Pages()
	for _, at := range l {
		b[at/8] += byte(math.Pow(2, float64(at%8)))
	}
	return string(b)
}

// The kinds of calls of a script: those of a heap, those of its pool, and those by
// which the device is made to fail.
const (
	insert = iota
	remove
	put
	get
	places
	pages
	flush
	evict
	refuse
	arm
)

type call struct {
	kind, n int
	row     string
}

func (c call) String() string {
	name := []string{"Insert", "Delete", "Put", "Get", "Places", "Pages", "Flush", "Evict", "Refuse", "Arm"}[c.kind]
	if c.kind == insert || c.kind == put {
		return fmt.Sprintf("%s(%d, %s)", name, c.n, short(c.row))
	}
	return fmt.Sprintf("%s(%d)", name, c.n)
}

// told is what a call of a heap answers.
type told struct {
	place int
	row   string
	list  []int
	err   api.Errno
}

func (a told) String() string {
	return fmt.Sprintf("place %d, row %s, list %v, error %d", a.place, short(a.row), a.list, a.err)
}

func does(h heaped, c call) told {
	var a told
	switch c.kind {
	case insert:
		a.place, a.err = h.Insert(c.row)
	case remove:
		a.err = h.Delete(c.n)
	case put:
		a.err = h.Put(c.n, c.row)
	case get:
		a.row, a.err = h.Get(c.n)
	case places:
		a.list, a.err = h.Places()
	case pages:
		a.list, a.err = h.Pages()
	}
	return a
}

// short: a text whose bytes are mostly alike, so that it can be read.
func short(s string) string {
	if len(s) < 9 {
		return fmt.Sprintf("%q", s)
	}
	return fmt.Sprintf("%.3q by %d", s, len(s))
}

// pair: a heap and a model that are told the same.
type pair struct {
	d     *dev.Dev
	p     *pool.Pool
	h     *Heap
	m     *model
	calls []call
}

func twice(t *testing.T, sectors, frames int) *pair {
	t.Helper()
	d, p, h := fresh(t, sectors, frames)
	return &pair{d: d, p: p, h: h, m: newModel(sectors, frames)}
}

// step makes a call twice, and holds the answers against each other.
func (x *pair) step(t *testing.T, c call) {
	t.Helper()
	x.calls = append(x.calls, c)
	switch c.kind {
	case flush:
		x.p.Flush()
	case evict:
		x.p.Evict(c.n)
	case refuse:
		x.d.Refuse(c.n)
	case arm:
		x.d.Arm(c.n)
	default:
		x.same(t, c)
	}
	nothingPinned(t, x.p)
}

func (x *pair) same(t *testing.T, c call) {
	t.Helper()
	x.hold(t, does(x.h, c), does(x.m, c))
}

func (x *pair) hold(t *testing.T, got, want told) {
	t.Helper()
	if got.place != want.place || got.row != want.row || got.err != want.err || !slices.Equal(got.list, want.list) {
		t.Fatalf("%d frames, %v:\n%v; want\n%v", x.m.frames, x.calls, got, want)
	}
}

// whole holds all that can be told of the heap against the model, and the map's
// bytes.
func (x *pair) whole(t *testing.T) {
	t.Helper()
	x.same(t, call{kind: pages})
	x.same(t, call{kind: places})
	l, _ := x.m.Places()
	for _, place := range l {
		for n := place - 1; n <= place+1; n++ {
			x.same(t, call{kind: get, n: n})
		}
	}
	if got := peek(t, x.p, 0); got != x.m.bits() {
		t.Fatalf("%d frames, %v:\npage 0 is %x; want %x", x.m.frames, x.calls, got[:9], x.m.bits()[:9])
	}
	nothingPinned(t, x.p)
}

// anew goes on with a pool and a heap that are made anew, of what was flushed.
func (x *pair) anew(t *testing.T) {
	t.Helper()
	if err := x.p.Flush(); err != api.OK {
		t.Fatal("Flush:", err)
	}
	x.d.Crash(nil)
	x.p, _ = pool.New(x.d, x.m.frames)
	x.h, _ = New(x.p)
}

func row(c byte, n int) string { return strings.Repeat(string([]byte{c}), n) }

func TestP8_2AllShortScripts(t *testing.T) {
	var choices []call
	for i, n := range []int{400, 100, 96, 0} {
		choices = append(choices, call{kind: insert, row: row(byte('a'+i), n)})
	}
	for _, place := range []int{128, 129, 256} {
		choices = append(choices, call{kind: remove, n: place}, call{kind: put, n: place, row: row('p', 104)}, call{kind: put, n: place})
	}
	const length = 4
	all := int(math.Pow(float64(len(choices)), length))
	for n := range all {
		x := twice(t, 3, 2+n%2)
		x.step(t, call{kind: insert, row: row('1', 397)})
		x.step(t, call{kind: insert, row: row('2', 96)})
		for range length {
			x.step(t, choices[n%len(choices)])
			n /= len(choices)
		}
		x.whole(t)
	}
}

// anyRow: one of lengths that are near to a bound, or of any.
func anyRow(r *rand.Rand) string {
	n := r.Intn(402)
	if r.Intn(2) == 0 {
		n = []int{0, 0, 0, 1, 2, 92, 95, 96, 97, 100, 399, 400, 401, 512, 5000}[r.Intn(15)]
	}
	return row(byte(r.Intn(256)), n)
}

// anyPlace: mostly one that has a row.
func anyPlace(r *rand.Rand, x *pair) int {
	l, _ := x.m.Places()
	switch n := r.Intn(10); {
	case n == 0:
		return noPlaces(x.m.sectors)[r.Intn(len(noPlaces(x.m.sectors)))]
	case n < 3 || len(l) == 0:
		return 128 + r.Intn(128*x.m.sectors)
	}
	return l[r.Intn(len(l))]
}

func anyCall(r *rand.Rand, x *pair, grows int) call {
	switch n := r.Intn(100); {
	case n < grows:
		return call{kind: insert, row: anyRow(r)}
	case n < 60:
		return call{kind: remove, n: anyPlace(r, x)}
	case n < 75:
		return call{kind: put, n: anyPlace(r, x), row: anyRow(r)}
	case n < 85:
		return call{kind: get, n: anyPlace(r, x)}
	case n < 87:
		return call{kind: places}
	case n < 89:
		return call{kind: pages}
	case n < 91:
		return call{kind: flush}
	}
	return call{kind: evict, n: r.Intn(9) - 4}
}

func TestP8_2AnyCalls(t *testing.T) {
	for seed := range 120 {
		r := rand.New(rand.NewSource(int64(seed)))
		sectors := []int{1, 2, 3, 4, 9, 10, 18, 40}[r.Intn(8)]
		frames := []int{1, 2, 2, 3, 4, 7, api.MaxFrames}[r.Intn(7)]
		x := twice(t, sectors, frames)
		for i := range 400 {
			// It fills and it empties, by turns.
			x.step(t, anyCall(r, x, []int{55, 15}[i/100%2]))
			if i%40 == 0 {
				x.whole(t)
			}
			if i%150 == 149 {
				x.anew(t)
			}
		}
		x.whole(t)
	}
}

// Rows of no byte come to the greatest slots that there are.
func TestP8_2ManySlots(t *testing.T) {
	for _, frames := range []int{2, 3} {
		x := twice(t, 3, frames)
		for range 2*126 + 4 {
			x.step(t, call{kind: insert})
		}
		x.whole(t)
		for _, place := range []int{128, 253, 256, 381, 254, 382, 255, 383, 300} {
			x.step(t, call{kind: remove, n: place})
			x.step(t, call{kind: insert, row: "x"})
			x.step(t, call{kind: insert})
			x.step(t, call{kind: insert})
			x.whole(t)
		}
	}
}

// script: calls that come by all that the chapter names, on a device of 4 sectors.
func script() []call {
	var l []call
	add := func(kind, n, length int) {
		l = append(l, call{kind: kind, n: n, row: row(byte('a'+len(l)%26), length)})
	}
	for _, length := range []int{400, 300, 96, 400, 399, 0, 401} {
		add(insert, 0, length)
	}
	add(places, 0, 0)
	add(put, 128, 300)
	add(insert, 0, 96)
	add(flush, 0, 0)
	add(remove, 129, 0)
	add(remove, 256, 0)
	add(get, 128, 0)
	add(insert, 0, 401)
	add(insert, 0, 400)
	add(pages, 0, 0)
	add(evict, 0, 0)
	add(remove, 128, 0)
	add(remove, 384, 0)
	add(get, 256, 0)
	add(put, 256, 10)
	add(put, 384, 10)
	add(insert, 0, 350)
	add(insert, 0, 150)
	add(flush, 0, 0)
	add(put, 129, 401)
	add(put, 129, 399)
	add(remove, 512, 0)
	add(places, 0, 0)
	add(evict, 1, 0)
	add(remove, 129, 0)
	add(remove, 128, 0)
	add(remove, 130, 0)
	add(remove, 256, 0)
	add(pages, 0, 0)
	add(insert, 0, 1)
	add(flush, 0, 0)
	return l
}

// againstFaults makes a call of a pair whose device may fail. Where an error of the
// device is told nothing may have changed, and without the fault the call goes well.
func (x *pair) againstFaults(t *testing.T, c call, failing bool) bool {
	t.Helper()
	x.calls = append(x.calls, c)
	switch c.kind {
	case flush:
		return x.p.Flush() != api.OK
	case evict:
		return x.p.Evict(c.n) != api.OK
	}
	was := maps.Clone(x.m.rows)
	got, want := does(x.h, c), does(x.m, c)
	nothingPinned(t, x.p)
	if got.err == api.ErrBroken || got.err == api.ErrDown {
		if !failing {
			t.Fatalf("%d frames, %v: error %d of a device that is well", x.m.frames, x.calls, got.err)
		}
		if got.place != 0 || got.row != "" || len(got.list) != 0 {
			t.Fatalf("%d frames, %v: beside an error %v", x.m.frames, x.calls, got)
		}
		x.m.rows = was
		return true
	}
	x.hold(t, got, want)
	return false
}

func TestP8_1AFaultAtEachOperation(t *testing.T) {
	for _, frames := range []int{1, 2, 3, 4} {
		x := twice(t, 4, frames)
		for _, c := range script() {
			x.step(t, c)
		}
		ops, writes := x.d.Ops(), x.p.Writes()
		if frames == 2 && writes < 10 {
			t.Errorf("the script writes %d pages only", writes)
		}
		for n := range ops + 2 {
			if failed := faultAt(t, frames, call{kind: arm, n: n}); failed != (n < ops) {
				t.Errorf("%d frames, Arm(%d): failed %v", frames, n, failed)
			}
			if failed := faultAt(t, frames, call{kind: refuse, n: n}); failed != (n > 0 && n <= writes) {
				t.Errorf("%d frames, Refuse(%d): failed %v", frames, n, failed)
			}
		}
	}
}

// faultAt runs the script with a fault from its beginning on, and tells whether a
// call told it.
func faultAt(t *testing.T, frames int, fault call) bool {
	t.Helper()
	x := twice(t, 4, frames)
	x.step(t, fault)
	failed := false
	for _, c := range script() {
		if !x.againstFaults(t, c, !failed) {
			continue
		}
		failed = true
		// While the power is gone all goes on telling so, or needs no device.
		for _, other := range script() {
			if other.kind < flush && x.d.Down() {
				x.againstFaults(t, other, true)
			}
		}
		x.d.Arm(-1)
		x.d.Refuse(0)
		x.whole(t)
		x.againstFaults(t, c, false)
	}
	x.d.Arm(-1)
	x.d.Refuse(0)
	x.whole(t)
	x.anew(t)
	x.whole(t)
	return failed
}

// A fault ahead of each call of the script, not only at each operation: so reads
// fail, too, that are the next thing that the device is asked.
func TestP8_1AFaultAheadOfEachCall(t *testing.T) {
	faults := []call{{kind: refuse, n: 1}, {kind: refuse, n: 2}, {kind: arm, n: 0}, {kind: arm, n: 1}, {kind: arm, n: 2}}
	for _, frames := range []int{1, 2, 3, 4} {
		for at := range script() {
			for _, fault := range faults {
				for _, lasts := range []int{1, 3, 1000} {
					x := twice(t, 4, frames)
					for i, c := range script() {
						if i == at {
							x.step(t, fault)
						}
						if i == at+lasts {
							x.d.Arm(-1)
							x.d.Refuse(0)
							x.whole(t)
						}
						x.againstFaults(t, c, i >= at && i < at+lasts)
					}
					x.d.Arm(-1)
					x.d.Refuse(0)
					x.whole(t)
				}
			}
		}
	}
}
