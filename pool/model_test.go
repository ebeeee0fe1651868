package pool

import (
	"cmp"
	"fmt"
	"math"
	"math/rand"
	"slices"
	"strings"
	"testing"

	"hedgerow/api"
	"hedgerow/dev"
)

// pooled: what the pool can do, and the model.
type pooled interface {
	Pin(at int) (string, api.Errno)
	Set(at int, s string) api.Errno
	Unpin(at int) api.Errno
	Flush() api.Errno
	Evict(n int) api.Errno
	Held() []int
	Dirty() []int
	Reads() int
	Writes() int
}

// cell: a frame as the chapter's words have it.
type cell struct {
	holds bool
	at    int
	s     string
	pins  int
	dirty bool
	used  int
}

// model: a second pool, that says when each frame was used last, and looks through
// all of its frames for each answer.
type model struct {
	d             *dev.Dev
	cells         []cell
	now           int
	reads, writes int
}

func (m *model) which(good func(cell) bool) int {
	return slices.IndexFunc(m.cells, good)
}

func (m *model) holder(at int) int {
	return m.which(func(c cell) bool { return c.holds && c.at == at })
}

func (m *model) use(i int) {
	m.now++
	m.cells[i].used = m.now
}

// loose: which frames may be given up, by when they were used.
func (m *model) loose() []int {
	var l []int
	for i, c := range m.cells {
		if c.holds && c.pins == 0 {
			l = append(l, i)
		}
	}
	slices.SortFunc(l, func(i, j int) int { return cmp.Compare(m.cells[i].used, m.cells[j].used) })
	return l
}

func (m *model) giveUp(i int) api.Errno {
	if m.cells[i].dirty {
		if err := m.d.Write(m.cells[i].at, m.cells[i].s); err != api.OK {
			return err
		}
		m.writes++
	}
	m.cells[i] = cell{}
	return api.OK
}

func (m *model) Pin(at int) (string, api.Errno) {
	if at < 0 || at >= m.d.Sectors() {
		return "", api.ErrPlace
	}
	if i := m.holder(at); i >= 0 {
		m.cells[i].pins++
		m.use(i)
		return m.cells[i].s, api.OK
	}
	i := m.which(func(c cell) bool { return !c.holds })
	if i < 0 {
		l := m.loose()
		if len(l) == 0 {
			return "", api.ErrPinned
		}
		i = l[0]
		if err := m.giveUp(i); err != api.OK {
			return "", err
		}
	}
	s, err := m.d.Read(at)
	if err != api.OK {
		return "", err
	}
	m.reads++
	m.cells[i] = cell{holds: true, at: at, s: s, pins: 1}
	m.use(i)
	return s, api.OK
}

func (m *model) Set(at int, s string) api.Errno {
	i := m.holder(at)
	if i < 0 || m.cells[i].pins == 0 {
		return api.ErrNone
	}
	if len(s) != 512 {
		return api.ErrLong
	}
	m.cells[i].s, m.cells[i].dirty = s, true
	m.use(i)
	return api.OK
}

func (m *model) Unpin(at int) api.Errno {
	i := m.holder(at)
	if i < 0 || m.cells[i].pins == 0 {
		return api.ErrNone
	}
	m.cells[i].pins--
	m.use(i)
	return api.OK
}

func (m *model) Flush() api.Errno {
	for at := range m.d.Sectors() {
		i := m.holder(at)
		if i < 0 || !m.cells[i].dirty {
			continue
		}
		if err := m.d.Write(at, m.cells[i].s); err != api.OK {
			return err
		}
		m.writes++
		m.cells[i].dirty = false
	}
	return m.d.Flush()
}

func (m *model) Evict(n int) api.Errno {
	l := m.loose()
	if len(l) == 0 {
		return api.ErrNone
	}
	return m.giveUp(l[((n%len(l))+len(l))%len(l)])
}

func (m *model) sectors(good func(cell) bool) []int {
	var l []int
	for at := range m.d.Sectors() {
		if i := m.holder(at); i >= 0 && good(m.cells[i]) {
			l = append(l, at)
		}
	}
	return l
}

func (m *model) Held() []int  { return m.sectors(func(cell) bool { return true }) }
func (m *model) Dirty() []int { return m.sectors(func(c cell) bool { return c.dirty }) }
func (m *model) Reads() int   { return m.reads }
func (m *model) Writes() int  { return m.writes }

// The kinds of calls of a script: those of a pool, and those by which its device
// is made to fail.
const (
	pin = iota
	set
	unpin
	flush
	evict
	refuse
	arm
)

type call struct {
	kind, n int
	s       string
}

func (c call) String() string {
	name := []string{"Pin", "Set", "Unpin", "Flush", "Evict", "Refuse", "Arm"}[c.kind]
	if c.kind == set {
		return fmt.Sprintf("%s(%d, %d of %.4q)", name, c.n, len(c.s), c.s)
	}
	return fmt.Sprintf("%s(%d)", name, c.n)
}

// does makes a call, and tells what was answered.
func does(p pooled, d *dev.Dev, c call) (string, api.Errno) {
	switch c.kind {
	case pin:
		return p.Pin(c.n)
	case set:
		return "", p.Set(c.n, c.s)
	case unpin:
		return "", p.Unpin(c.n)
	case flush:
		return "", p.Flush()
	case evict:
		return "", p.Evict(c.n)
	case refuse:
		d.Refuse(c.n)
	case arm:
		d.Arm(c.n)
	}
	return "", api.OK
}

// short: a text whose bytes are mostly alike, so that it can be read.
func short(s string) string {
	if s == "" {
		return "none"
	}
	return fmt.Sprintf("%.3q by %d and %.3q", s, len(s), s[len(s)-1:])
}

// state: all that can be told of a pool, and of its device, without changing them.
func state(p pooled, d *dev.Dev) string {
	return fmt.Sprint("held ", p.Held(), " dirty ", p.Dirty(), " reads ", p.Reads(), " writes ", p.Writes(),
		" device: held ", d.Held(), " ops ", d.Ops(), " down ", d.Down())
}

// pair: a pool and a model, each on a device of its own, that are told the same.
type pair struct {
	p    *Pool
	m    *model
	d, e *dev.Dev
	told []call
}

func twice(t *testing.T, sectors, frames int) *pair {
	t.Helper()
	d, p := fresh(t, sectors, frames)
	e, _ := dev.New(sectors)
	x := &pair{p: p, d: d, e: e, m: &model{d: e, cells: make([]cell, frames)}}
	for at := range sectors {
		s := full(byte('A' + at%26))
		d.Write(at, s)
		e.Write(at, s)
	}
	d.Flush()
	e.Flush()
	return x
}

// step makes a call twice, and holds the answers against each other.
func (x *pair) step(t *testing.T, c call) {
	t.Helper()
	x.told = append(x.told, c)
	s, err := does(x.p, x.d, c)
	want, wantErr := does(x.m, x.e, c)
	if s != want || err != wantErr {
		t.Fatalf("%v: %s, error %d; want %s, error %d", x.told, short(s), err, short(want), wantErr)
	}
	if got, want := state(x.p, x.d), state(x.m, x.e); got != want {
		t.Fatalf("%v:\n%s; want\n%s", x.told, got, want)
	}
}

// end holds the two devices against each other, as they are and behind a crash,
// and what the frames have.
func (x *pair) end(t *testing.T) {
	t.Helper()
	x.d.Arm(-1)
	x.e.Arm(-1)
	for _, at := range x.p.Held() {
		x.step(t, call{kind: pin, n: at})
	}
	x.sameDevices(t, "as they are")
	x.d.Crash(nil)
	x.e.Crash(nil)
	x.sameDevices(t, "behind a crash")
}

func (x *pair) sameDevices(t *testing.T, when string) {
	t.Helper()
	for at := range x.d.Sectors() {
		got, _ := x.d.Read(at)
		want, _ := x.e.Read(at)
		if got != want {
			t.Fatalf("%v: sector %d, %s: %s; want %s", x.told, at, when, short(got), short(want))
		}
	}
}

// script: calls that come by all that the chapter names: pages that are pinned
// twice, clean and dirty ones that are given up, none that can be.
func script() []call {
	var l []call
	add := func(kind int, ns ...int) {
		for _, n := range ns {
			l = append(l, call{kind: kind, n: n, s: full(byte('a' + len(l)%26))})
		}
	}
	add(pin, 0, 1, 2)
	add(set, 0, 2)
	add(pin, 3, 0)
	add(unpin, 0, 1)
	add(pin, 3)
	add(set, 3, 1)
	add(unpin, 0, 3, 2, 2)
	add(pin, 4)
	add(set, 4, 4)
	add(unpin, 4)
	add(flush, 0)
	add(pin, 2, 3, 4)
	add(set, 4, 2, 3)
	add(unpin, 4)
	add(evict, 1, 0, -1)
	add(pin, 0, 5)
	add(unpin, 0, 3, 2)
	add(evict, -1)
	add(pin, 1)
	add(set, 1)
	add(flush, 0, 0)
	add(unpin, 1)
	add(pin, 6, 6)
	add(set, 6)
	add(unpin, 6, 6)
	add(pin, 1, 2, 3, 4)
	add(unpin, 1, 2, 3, 4)
	add(evict, 5, 5, 5, 5)
	add(flush, 0)
	return l
}

func TestP7_2AndP7_3AFaultAheadOfEachCall(t *testing.T) {
	faults := []call{{kind: refuse, n: 1}, {kind: refuse, n: 2}, {kind: refuse, n: 3}, {kind: arm, n: 0}, {kind: arm, n: 1}, {kind: arm, n: 2}, {kind: arm, n: 3}}
	for _, frames := range []int{1, 2, 3, 4} {
		for at := range script() {
			for _, fault := range faults {
				for _, lasts := range []int{1, 2, 5, 1000} {
					x := twice(t, 7, frames)
					for i, c := range script() {
						if i == at {
							x.step(t, fault)
						}
						if i == at+lasts {
							x.step(t, call{kind: refuse})
							x.step(t, call{kind: arm, n: -1})
						}
						x.step(t, c)
					}
					x.end(t)
				}
			}
		}
	}
}

func TestP7_2AndP7_3AllShortScripts(t *testing.T) {
	var choices []call
	for at := range 3 {
		choices = append(choices, call{kind: pin, n: at}, call{kind: set, n: at, s: full(byte('x' + at))}, call{kind: unpin, n: at})
	}
	choices = append(choices, call{kind: evict}, call{kind: evict, n: 1}, call{kind: flush}, call{kind: refuse, n: 1}, call{kind: arm, n: 1})
	const length = 4
	all := 2 * int(math.Pow(float64(len(choices)), length))
	for n := range all {
		x := twice(t, 3, 2)
		// Both pages are there at first, and one of them is dirty.
		x.step(t, call{kind: pin, n: 0})
		x.step(t, call{kind: set, n: 0, s: full('d')})
		x.step(t, call{kind: pin, n: 1})
		x.step(t, call{kind: unpin, n: n % 2})
		n /= 2
		for range length {
			x.step(t, choices[n%len(choices)])
			n /= len(choices)
		}
	}
}

// anyCall: one of those that mostly can be, now and then one that can't.
func anyCall(r *rand.Rand, sectors int) call {
	at := r.Intn(sectors)
	if r.Intn(40) == 0 {
		at = []int{-1, sectors, sectors + 1, math.MinInt, math.MaxInt}[r.Intn(5)]
	}
	switch n := r.Intn(100); {
	case n < 35:
		return call{kind: pin, n: at}
	case n < 65:
		return call{kind: unpin, n: at}
	case n < 85:
		return call{kind: set, n: at, s: anyBytes(r)}
	case n < 88:
		return call{kind: flush}
	case n < 94:
		return call{kind: evict, n: r.Intn(20) - 10}
	case n < 97:
		return call{kind: refuse, n: r.Intn(4)}
	}
	return call{kind: arm, n: []int{-1, -1, 0, 1, 2, 3}[r.Intn(6)]}
}

func anyBytes(r *rand.Rand) string {
	if r.Intn(30) == 0 {
		return strings.Repeat("l", []int{0, 1, 511, 513, 1024}[r.Intn(5)])
	}
	b := make([]byte, api.Sector)
	r.Read(b)
	return string(b)
}

func TestP7_2AndP7_3AnyCalls(t *testing.T) {
	for seed := range 150 {
		r := rand.New(rand.NewSource(int64(seed)))
		sectors := 1 + r.Intn(12)
		frames := 1 + r.Intn(8)
		if seed%10 == 0 {
			sectors, frames = 60+r.Intn(60), api.MaxFrames-r.Intn(3)
		}
		x := twice(t, sectors, frames)
		for range 600 {
			x.step(t, anyCall(r, sectors))
		}
		x.end(t)
	}
}
