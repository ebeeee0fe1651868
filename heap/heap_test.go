package heap

import (
	"fmt"
	"math"
	"math/rand"
	"slices"
	"strings"
	"testing"
	"unsafe"

	"hedgerow/api"
	"hedgerow/dev"
	"hedgerow/page"
	"hedgerow/pool"
)

func fresh(t *testing.T, sectors, frames int) (*dev.Dev, *pool.Pool, *Heap) {
	t.Helper()
	d, err := dev.New(sectors)
	if err != api.OK {
		t.Fatal("no device:", err)
	}
	p, h := on(t, d, frames)
	return d, p, h
}

// on is a new heap of what a device has.
func on(t *testing.T, d *dev.Dev, frames int) (*pool.Pool, *Heap) {
	t.Helper()
	p, err := pool.New(d, frames)
	if err != api.OK {
		t.Fatal("no pool:", err)
	}
	h, err := New(p)
	if err != api.OK || h == nil {
		t.Fatal("New:", err)
	}
	return p, h
}

func inserts(t *testing.T, h *Heap, row string, want int, wantErr api.Errno) {
	t.Helper()
	if place, err := h.Insert(row); place != want || err != wantErr {
		t.Errorf("Insert(%s): %d, error %d; want %d, error %d", short(row), place, err, want, wantErr)
	}
}

func deletes(t *testing.T, h *Heap, place int, want api.Errno) {
	t.Helper()
	if err := h.Delete(place); err != want {
		t.Errorf("Delete(%d): error %d; want %d", place, err, want)
	}
}

func puts(t *testing.T, h *Heap, place int, row string, want api.Errno) {
	t.Helper()
	if err := h.Put(place, row); err != want {
		t.Errorf("Put(%d, %s): error %d; want %d", place, short(row), err, want)
	}
}

func gets(t *testing.T, h *Heap, place int, want string, wantErr api.Errno) {
	t.Helper()
	if row, err := h.Get(place); row != want || err != wantErr {
		t.Errorf("Get(%d): %s, error %d; want %s, error %d", place, short(row), err, short(want), wantErr)
	}
}

func tellsPlaces(t *testing.T, h *Heap, want []int, wantErr api.Errno) {
	t.Helper()
	if l, err := h.Places(); !slices.Equal(l, want) || err != wantErr {
		t.Errorf("Places: %v, error %d; want %v, error %d", l, err, want, wantErr)
	}
}

func tellsPages(t *testing.T, h *Heap, want []int, wantErr api.Errno) {
	t.Helper()
	if l, err := h.Pages(); !slices.Equal(l, want) || err != wantErr {
		t.Errorf("Pages: %v, error %d; want %v, error %d", l, err, want, wantErr)
	}
}

func list(l ...int) []int { return l }

// peek is a page's bytes as the pool has it.
func peek(t *testing.T, p *pool.Pool, at int) string {
	t.Helper()
	s, err := p.Pin(at)
	if err != api.OK {
		t.Fatalf("Pin(%d): error %d", at, err)
	}
	p.Unpin(at)
	return s
}

// hasBits holds the first bytes of page 0 against what they must be; the others are
// 0.
func hasBits(t *testing.T, p *pool.Pool, want ...byte) {
	t.Helper()
	if s := peek(t, p, 0); s != string(want)+row(0, 512-len(want)) {
		t.Errorf("page 0: %x; want %x, and zeros", strings.TrimRight(s, "\x00"), want)
	}
}

// nothingPinned: Unpin of what is not pinned changes nothing.
func nothingPinned(t *testing.T, p *pool.Pool) {
	t.Helper()
	for _, at := range p.Held() {
		if p.Unpin(at) != api.ErrNone {
			t.Fatalf("page %d is pinned still", at)
		}
	}
}

// pinned pins pages, as others than the heap do.
func pinned(t *testing.T, p *pool.Pool, l ...int) {
	t.Helper()
	for _, at := range l {
		if _, err := p.Pin(at); err != api.OK {
			t.Fatalf("Pin(%d): error %d", at, err)
		}
	}
}

// unpinned takes these pins away, each of which must be the last one.
func unpinned(t *testing.T, p *pool.Pool, l ...int) {
	t.Helper()
	for _, at := range l {
		if err := p.Unpin(at); err != api.OK {
			t.Errorf("Unpin(%d): error %d", at, err)
		}
	}
	nothingPinned(t, p)
}

// filled is a device whose pages have rows of 400 and 100 bytes, up to the last one
// named, with the map that says so: written by hand, since Insert takes long to.
func filled(t *testing.T, sectors, upTo int) *dev.Dev {
	t.Helper()
	d, _ := dev.New(sectors)
	s, _, _ := page.Insert(page.Empty(), row('a', 400))
	s, _, err := page.Insert(s, row('b', 100))
	if err != api.OK {
		t.Fatal(err)
	}
	bits := make([]byte, 512)
	for at := 1; at <= upTo; at++ {
		d.Write(at, s)
		bits[at/8] |= 1 << (at % 8)
	}
	d.Write(0, string(bits))
	d.Flush()
	return d
}

// noPlaces: numbers that are no row's place on a device of so many sectors.
func noPlaces(sectors int) []int {
	return []int{0, 1, 5, 126, 127, -1, -2, -127, -128, -129, -256, 255, 383, 128*sectors - 1, 128 * sectors, 128*sectors + 1, 128*sectors + 126,
		128 * 4096, 128*4096 + 1, 128 * 8192, 128 * 8193, 1 << 31, 1 << 32, 1<<32 + 128, 1 << 40, math.MaxInt32, math.MinInt32,
		math.MaxInt, math.MaxInt - 1, math.MaxInt - 127, math.MaxInt - 128, math.MinInt, math.MinInt + 1, math.MinInt + 128, math.MinInt + 129}
}

func TestP8_1New(t *testing.T) {
	if h, err := New(nil); h != nil || err != api.ErrArg {
		t.Errorf("New of nil: %v, error %d", h != nil, err)
	}
	for _, sectors := range []int{1, 2, 3, api.MaxSectors} {
		for _, frames := range []int{1, 2, 3, api.MaxFrames} {
			_, p, h := fresh(t, sectors, frames)
			if len(p.Held()) != 0 || p.Reads() != 0 {
				t.Errorf("New asked the pool: holds %v, reads %d", p.Held(), p.Reads())
			}
			tellsPages(t, h, nil, api.OK)
			tellsPlaces(t, h, nil, api.OK)
			gets(t, h, 128, "", api.ErrNone)
			if len(p.Dirty()) != 0 {
				t.Error("pages that were asked only are dirty:", p.Dirty())
			}
			nothingPinned(t, p)
		}
	}
}

func TestP8_1NewWithoutPowerOrFrames(t *testing.T) {
	d, _ := dev.New(3)
	d.Arm(0)
	_, h := on(t, d, 2)
	inserts(t, h, "a", 0, api.ErrDown)
	d.Arm(-1)
	inserts(t, h, "a", 128, api.OK)
	p, _ := pool.New(d, 1)
	pinned(t, p, 2)
	if h, err := New(p); h == nil || err != api.OK {
		t.Error("New of a pool that is all pinned:", err)
	}
}

func TestP8_1Nil(t *testing.T) {
	var h *Heap
	for _, place := range append(noPlaces(2), 128, 129, 254) {
		deletes(t, h, place, api.ErrArg)
		gets(t, h, place, "", api.ErrArg)
		for _, n := range []int{0, 1, 400, 401} {
			puts(t, h, place, row('a', n), api.ErrArg)
		}
	}
	for _, n := range []int{0, 1, 400, 401} {
		inserts(t, h, row('a', n), 0, api.ErrArg)
	}
	tellsPlaces(t, h, nil, api.ErrArg)
	tellsPages(t, h, nil, api.ErrArg)
}

func TestP8_1AHeapOfPagesThatHaveRows(t *testing.T) {
	d, p, h := fresh(t, 5, 2)
	inserts(t, h, row('a', 400), 128, api.OK)
	inserts(t, h, row('b', 300), 256, api.OK)
	inserts(t, h, row('c', 60), 129, api.OK)
	deletes(t, h, 128, api.OK)
	// Another heap of the same pool, of a pool behind Flush, and that one's first.
	again, _ := New(p)
	p.Flush()
	d.Crash(nil)
	for _, frames := range []int{1, 2, 3} {
		_, other := on(t, d, frames)
		for _, x := range []*Heap{h, again, other} {
			tellsPlaces(t, x, list(129, 256), api.OK)
			tellsPages(t, x, list(1, 2), api.OK)
			gets(t, x, 129, row('c', 60), api.OK)
			gets(t, x, 128, "", api.ErrNone)
			gets(t, x, 256, row('b', 300), api.OK)
		}
	}
	_, other := on(t, d, 2)
	inserts(t, other, "d", 128, api.OK)
	deletes(t, other, 256, api.OK)
	tellsPages(t, other, list(1), api.OK)
}

func TestP8_1WithOneFrame(t *testing.T) {
	d := filled(t, 4, 2)
	for _, evicts := range []bool{false, true} {
		p, h := on(t, d, 1)
		rest := func() {
			nothingPinned(t, p)
			if evicts {
				p.Evict(0)
			}
			if len(p.Dirty()) != 0 {
				t.Error("dirty:", p.Dirty())
			}
		}
		for _, n := range []int{0, 1, 399, 400} {
			inserts(t, h, row('x', n), 0, api.ErrPinned)
			rest()
		}
		inserts(t, h, row('x', 401), 0, api.ErrLong)
		for _, place := range []int{128, 129, 130, 254, 256, 257, 384, 510} {
			deletes(t, h, place, api.ErrPinned)
			rest()
			for _, n := range []int{0, 100, 401} {
				puts(t, h, place, row('x', n), api.ErrPinned)
				rest()
			}
		}
		for _, place := range noPlaces(4) {
			deletes(t, h, place, api.ErrNone)
			puts(t, h, place, row('x', 401), api.ErrNone)
			gets(t, h, place, "", api.ErrNone)
			rest()
		}
		gets(t, h, 128, row('a', 400), api.OK)
		rest()
		gets(t, h, 257, row('b', 100), api.OK)
		rest()
		gets(t, h, 384, "", api.ErrNone)
		rest()
		tellsPlaces(t, h, list(128, 129, 256, 257), api.OK)
		rest()
		tellsPages(t, h, list(1, 2), api.OK)
		rest()
	}
}

// asked: a call that pins pages, by name, and how it is answered where it can pin
// them: on a device whose pages 1 and 2 are full.
type asked struct {
	name  string
	needs []int
	call  func(h *Heap) api.Errno
	want  api.Errno
}

func allAsked() []asked {
	return []asked{
		{"Insert into page 3", list(0, 3), func(h *Heap) api.Errno { _, err := h.Insert("x"); return err }, api.OK},
		{"Delete", list(0, 1), func(h *Heap) api.Errno { return h.Delete(129) }, api.OK},
		{"Delete of no row", list(0, 1), func(h *Heap) api.Errno { return h.Delete(130) }, api.ErrNone},
		{"Delete of no row in a free page", list(0, 3), func(h *Heap) api.Errno { return h.Delete(384) }, api.ErrNone},
		{"Put", list(0, 2), func(h *Heap) api.Errno { return h.Put(256, "x") }, api.OK},
		{"Put of no row", list(0, 2), func(h *Heap) api.Errno { return h.Put(258, "x") }, api.ErrNone},
		{"Put that is too long", list(0, 2), func(h *Heap) api.Errno { return h.Put(256, row('x', 401)) }, api.ErrLong},
		{"Put without room", list(0, 2), func(h *Heap) api.Errno { return h.Put(257, row('x', 101)) }, api.ErrFull},
		{"Get", list(1), func(h *Heap) api.Errno { _, err := h.Get(128); return err }, api.OK},
		{"Get of no row", list(2), func(h *Heap) api.Errno { _, err := h.Get(258); return err }, api.ErrNone},
		{"Pages", list(0), func(h *Heap) api.Errno { _, err := h.Pages(); return err }, api.OK},
	}
}

func TestP8_1WhichPagesArePinned(t *testing.T) {
	others := list(9, 8, 7, 6, 5)
	for _, x := range allAsked() {
		for _, frames := range []int{1, 2, 3, 4, 5} {
			for free := range frames + 1 {
				p, h := on(t, filled(t, 10, 2), frames)
				pinned(t, p, others[:frames-free]...)
				want := x.want
				if free < len(x.needs) {
					want = api.ErrPinned
				}
				if err := x.call(h); err != want {
					t.Errorf("%s, %d frames, %d not pinned: error %d; want %d", x.name, frames, free, err, want)
				}
				if dirty := len(p.Dirty()) > 0; want != api.OK && dirty {
					t.Errorf("%s, %d frames, %d not pinned: dirty %v", x.name, frames, free, p.Dirty())
				}
				unpinned(t, p, others[:frames-free]...)
			}
		}
	}
}

// Where others have pinned just what a call needs, it needs no frame more; it takes
// none of these pins away.
func TestP8_1PagesThatOthersPinned(t *testing.T) {
	for _, x := range allAsked() {
		if x.name == "Insert into page 3" {
			continue // it looks through others ahead of that
		}
		for _, left := range x.needs {
			p, h := on(t, filled(t, 10, 2), len(x.needs))
			pinned(t, p, x.needs...)
			if err := x.call(h); err != x.want {
				t.Errorf("%s, all that it needs pinned: error %d; want %d", x.name, err, x.want)
			}
			unpinned(t, p, x.needs...)

			// One of them lacks, and another page has its frame.
			p, h = on(t, filled(t, 10, 2), len(x.needs))
			rest := slices.DeleteFunc(slices.Clone(x.needs), func(at int) bool { return at == left })
			pinned(t, p, append(rest, 9)...)
			if err := x.call(h); err != api.ErrPinned {
				t.Errorf("%s, page %d can't be pinned: error %d", x.name, left, err)
			}
			if len(p.Dirty()) != 0 {
				t.Errorf("%s, page %d can't be pinned: dirty %v", x.name, left, p.Dirty())
			}
			unpinned(t, p, append(rest, 9)...)
		}
	}
}

func TestP8_1InsertAndPlacesPinOnePageOfAllBehindEachOther(t *testing.T) {
	// Page 0 and the lower ones, though all but two frames are pinned.
	p, h := on(t, filled(t, 40, 30), 3)
	pinned(t, p, 39)
	inserts(t, h, "x", 31*128, api.OK)
	unpinned(t, p, 39)
	p, h = on(t, filled(t, 40, 30), 1)
	if l, err := h.Places(); len(l) != 60 || err != api.OK {
		t.Error(len(l), err)
	}
	nothingPinned(t, p)
	// Page 0 alone, or a page with rows alone, may be pinned: not both are there.
	p, h = on(t, filled(t, 40, 30), 1)
	pinned(t, p, 0)
	tellsPages(t, h, count(1, 30), api.OK)
	tellsPlaces(t, h, nil, api.ErrPinned)
	unpinned(t, p, 0)
	pinned(t, p, 7)
	gets(t, h, 7*128, row('a', 400), api.OK)
	gets(t, h, 8*128, "", api.ErrPinned)
	tellsPages(t, h, nil, api.ErrPinned)
	tellsPlaces(t, h, nil, api.ErrPinned)
	unpinned(t, p, 7)
}

// count: the numbers from one to another.
func count(from, to int) []int {
	var l []int
	for n := from; n <= to; n++ {
		l = append(l, n)
	}
	return l
}

func TestP8_1WhatNeedsNoPageIsToldWhateverThePoolSays(t *testing.T) {
	for _, fault := range []string{"all pinned", "no power"} {
		d := filled(t, 4, 2)
		p, h := on(t, d, 2)
		want := api.ErrPinned
		if fault == "all pinned" {
			pinned(t, p, 1, 2)
		} else {
			want = api.ErrDown
			d.Arm(0)
		}
		inserts(t, h, row('x', 401), 0, api.ErrLong)
		for _, place := range []int{math.MinInt, -1, 0, 127, 255, 383, 4096 * 128, math.MaxInt} {
			deletes(t, h, place, api.ErrNone)
			puts(t, h, place, "x", api.ErrNone)
			gets(t, h, place, "", api.ErrNone)
		}
		// That the device has no such page is asked of the pool, behind page 0.
		gets(t, h, 4*128, "", api.ErrNone)
		deletes(t, h, 4*128, want)
		puts(t, h, 4*128, "x", want)
	}
}

func TestP8_1AnErrorOfThePoolIsTold(t *testing.T) {
	for _, x := range allAsked() {
		for n := range len(x.needs) {
			// The frames have dirty pages: the n-th that is to be given up is refused.
			d := filled(t, 10, 2)
			p, h := on(t, d, 2)
			for at := 8; at < 10; at++ {
				pinned(t, p, at)
				p.Set(at, row('d', 512))
				p.Unpin(at)
			}
			d.Refuse(n + 1)
			if err := x.call(h); err != api.ErrBroken {
				t.Errorf("%s, write %d is refused: error %d", x.name, n, err)
			}
			nothingPinned(t, p)
			if n == 0 && !slices.Equal(p.Dirty(), list(8, 9)) {
				t.Errorf("%s: dirty %v", x.name, p.Dirty())
			}
			d.Arm(0)
			if err := x.call(h); err != api.ErrDown {
				t.Errorf("%s, no power: error %d", x.name, err)
			}
			nothingPinned(t, p)
			d.Arm(-1)
			tellsPlaces(t, h, list(128, 129, 256, 257), api.OK)
			tellsPages(t, h, list(1, 2), api.OK)
			if err := x.call(h); err != x.want {
				t.Errorf("%s, behind the faults: error %d", x.name, err)
			}
		}
	}
}

func TestP8_1ThePowerEndsBetweenTwoPages(t *testing.T) {
	for _, x := range allAsked() {
		if len(x.needs) < 2 {
			continue
		}
		// Page 0 is held, the others are not.
		d := filled(t, 10, 2)
		p, h := on(t, d, 2)
		tellsPages(t, h, list(1, 2), api.OK)
		d.Arm(0)
		if err := x.call(h); err != api.ErrDown {
			t.Errorf("%s: error %d", x.name, err)
		}
		nothingPinned(t, p)
		if len(p.Dirty()) != 0 {
			t.Errorf("%s: dirty %v", x.name, p.Dirty())
		}
		tellsPages(t, h, list(1, 2), api.OK)
		tellsPlaces(t, h, nil, api.ErrDown)
		d.Arm(-1)
		tellsPlaces(t, h, list(128, 129, 256, 257), api.OK)
	}
}

func TestP8_2InsertTakesRowsOf(t *testing.T) {
	for _, n := range []int{0, 1, 399, 400} {
		_, p, h := fresh(t, 2, 2)
		inserts(t, h, row('a', n), 128, api.OK)
		gets(t, h, 128, row('a', n), api.OK)
		hasBits(t, p, 2)
	}
	for _, n := range []int{401, 402, 508, 512, 513, 1 << 20} {
		for _, sectors := range []int{1, 2} {
			_, p, h := fresh(t, sectors, 2)
			inserts(t, h, row('a', n), 0, api.ErrLong)
			tellsPlaces(t, h, nil, api.OK)
			if len(p.Dirty()) != 0 {
				t.Error("dirty:", p.Dirty())
			}
		}
	}
	all := make([]byte, 256)
	for i := range all {
		all[i] = byte(i)
	}
	_, _, h := fresh(t, 2, 2)
	inserts(t, h, string(all), 128, api.OK)
	gets(t, h, 128, string(all), api.OK)
}

func TestP8_2ARowThatJustFits(t *testing.T) {
	for _, x := range []struct {
		there []int // rows in page 1, by their lengths
		just  int   // what the next one may have
	}{{list(400), 100}, {list(200), 300}, {list(399), 101}, {list(110), 390}, {list(100, 390), 6}, {list(100, 390, 5), -1}, {list(100, 390, 2), 0}, {list(0, 0, 300, 0), 188}} {
		for n := max(0, x.just-1); n <= x.just+2; n++ {
			_, _, h := fresh(t, 3, 2)
			for i, length := range x.there {
				inserts(t, h, row('a', length), 128+i, api.OK)
			}
			want := 256
			if n <= x.just {
				want = 128 + len(x.there)
			}
			inserts(t, h, row('b', n), want, api.OK)
			gets(t, h, want, row('b', n), api.OK)
		}
	}
}

func TestP8_2AllFullAndARowMore(t *testing.T) {
	for _, sectors := range []int{1, 2, 3, 12} {
		for _, frames := range []int{2, 3, 16} {
			_, p, h := fresh(t, sectors, frames)
			for at := 1; at < sectors; at++ {
				inserts(t, h, row('a', 400), 128*at, api.OK)
			}
			for _, n := range []int{400, 101} {
				inserts(t, h, row('b', n), 0, api.ErrFull)
			}
			for at := 1; at < sectors; at++ {
				inserts(t, h, row('b', 96), 128*at+1, api.OK)
			}
			for at := 1; at < sectors; at++ {
				inserts(t, h, "", 128*at+2, api.OK)
			}
			for _, n := range []int{0, 1, 400} {
				inserts(t, h, row('c', n), 0, api.ErrFull)
				nothingPinned(t, p)
			}
			inserts(t, h, row('c', 401), 0, api.ErrLong)
			if sectors == 1 {
				continue
			}
			deletes(t, h, 128*(sectors-1)+1, api.OK)
			inserts(t, h, row('d', 97), 0, api.ErrFull)
			inserts(t, h, row('d', 96), 128*(sectors-1)+1, api.OK)
			tellsPages(t, h, count(1, sectors-1), api.OK)
		}
	}
}

func TestP8_2WithOneSectorAndOneFrame(t *testing.T) {
	_, p, h := fresh(t, 1, 1)
	inserts(t, h, "", 0, api.ErrFull)
	inserts(t, h, row('a', 401), 0, api.ErrLong)
	deletes(t, h, 128, api.ErrNone)
	puts(t, h, 128, "", api.ErrNone)
	gets(t, h, 128, "", api.ErrNone)
	tellsPages(t, h, nil, api.OK)
	nothingPinned(t, p)
}

func TestP8_2TheLowestPageThatHasRoom(t *testing.T) {
	d := filled(t, 8, 6)
	_, h := on(t, d, 2)
	inserts(t, h, "x", 7*128, api.OK)
	for _, at := range []int{5, 3, 6, 1, 2} {
		deletes(t, h, 128*at+1, api.OK)
	}
	for _, x := range []struct{ n, place int }{{101, 7*128 + 1}, {100, 129}, {100, 257}, {0, 3*128 + 1}, {97, 5*128 + 1}, {96, 3*128 + 2}, {100, 6*128 + 1}} {
		inserts(t, h, row('c', x.n), x.place, api.OK)
	}
	// A shorter row leaves room, a longer one takes it.
	puts(t, h, 4*128, row('s', 300), api.OK)
	inserts(t, h, row('c', 97), 7*128+2, api.OK)
	inserts(t, h, row('c', 96), 4*128+2, api.OK)
	puts(t, h, 2*128+1, row('s', 10), api.OK)
	inserts(t, h, row('c', 86), 2*128+2, api.OK)
	deletes(t, h, 128, api.OK)
	puts(t, h, 129, row('l', 300), api.OK)
	inserts(t, h, row('c', 201), 7*128+3, api.OK)
	inserts(t, h, row('c', 200), 128, api.OK)
}

func TestP8_2SlotsThatWereDeletedAreTakenAgain(t *testing.T) {
	_, p, h := fresh(t, 3, 2)
	for i := range 5 {
		inserts(t, h, row(byte('a'+i), 10), 128+i, api.OK)
	}
	for _, place := range []int{131, 129, 128} {
		deletes(t, h, place, api.OK)
		deletes(t, h, place, api.ErrNone)
		gets(t, h, place, "", api.ErrNone)
		puts(t, h, place, "", api.ErrNone)
	}
	for _, place := range []int{128, 129, 131, 133} {
		inserts(t, h, fmt.Sprint(place), place, api.OK)
	}
	tellsPlaces(t, h, count(128, 133), api.OK)
	for place, want := range map[int]string{128: "128", 129: "129", 130: row('c', 10), 131: "131", 132: row('e', 10), 133: "133"} {
		gets(t, h, place, want, api.OK)
	}
	hasBits(t, p, 2)
}

func TestP8_2APageWhoseLastRowIsDeleted(t *testing.T) {
	_, p, h := fresh(t, 4, 2)
	inserts(t, h, row('a', 400), 128, api.OK)
	inserts(t, h, row('b', 400), 256, api.OK)
	inserts(t, h, "", 129, api.OK)
	hasBits(t, p, 6)
	deletes(t, h, 128, api.OK)
	hasBits(t, p, 6)
	tellsPages(t, h, list(1, 2), api.OK)
	deletes(t, h, 129, api.OK)
	hasBits(t, p, 4)
	tellsPages(t, h, list(2), api.OK)
	if s := peek(t, p, 1); s != page.Empty() {
		t.Error("a free page is not empty")
	}
	deletes(t, h, 129, api.ErrNone)
	hasBits(t, p, 4)
	deletes(t, h, 256, api.OK)
	hasBits(t, p)
	tellsPages(t, h, nil, api.OK)
	inserts(t, h, row('c', 400), 128, api.OK)
	inserts(t, h, row('c', 400), 256, api.OK)
	inserts(t, h, row('c', 400), 384, api.OK)
	hasBits(t, p, 14)
	deletes(t, h, 256, api.OK)
	hasBits(t, p, 10)
	tellsPages(t, h, list(1, 3), api.OK)
}

func TestP8_2Put(t *testing.T) {
	_, p, h := fresh(t, 3, 2)
	inserts(t, h, row('a', 300), 128, api.OK)
	inserts(t, h, row('b', 100), 129, api.OK)
	for _, x := range []struct {
		place, n int
		err      api.Errno
	}{{129, 200, api.OK}, {129, 201, api.ErrFull}, {129, 400, api.ErrFull}, {129, 401, api.ErrLong}, {129, 0, api.OK}, {128, 400, api.OK}, {129, 100, api.OK},
		{129, 101, api.ErrFull}, {128, 0, api.OK}, {129, 400, api.OK}, {128, 100, api.OK}, {128, 101, api.ErrFull}, {128, 1, api.OK}, {130, 1, api.ErrNone}, {130, 401, api.ErrNone}, {256, 401, api.ErrNone}} {
		was, _ := h.Get(x.place)
		puts(t, h, x.place, row('p', x.n), x.err)
		want := map[bool]string{true: row('p', x.n), false: was}[x.err == api.OK]
		if got, _ := h.Get(x.place); got != want {
			t.Errorf("%d behind Put of %d: %s; want %s", x.place, x.n, short(got), short(want))
		}
	}
	gets(t, h, 129, row('p', 400), api.OK)
	tellsPlaces(t, h, list(128, 129), api.OK)
	hasBits(t, p, 2)
	// A row of no byte is one: its page is not free.
	puts(t, h, 129, "", api.OK)
	puts(t, h, 128, "", api.OK)
	deletes(t, h, 128, api.OK)
	hasBits(t, p, 2)
	gets(t, h, 129, "", api.OK)
	tellsPlaces(t, h, list(129), api.OK)
}

func TestP8_2NoPlaces(t *testing.T) {
	for _, sectors := range []int{1, 2, 3, 20} {
		_, p, h := fresh(t, sectors, 3)
		for at := 1; at < sectors; at++ {
			inserts(t, h, row('a', 400), 128*at, api.OK)
		}
		p.Flush()
		for _, place := range append(noPlaces(sectors), 129, 254, 128*sectors-2) {
			gets(t, h, place, "", api.ErrNone)
			deletes(t, h, place, api.ErrNone)
			for _, n := range []int{0, 400, 401} {
				puts(t, h, place, row('x', n), api.ErrNone)
			}
		}
		if len(p.Dirty()) != 0 {
			t.Error("dirty:", p.Dirty())
		}
		nothingPinned(t, p)
		if l, err := h.Places(); len(l) != sectors-1 || err != api.OK {
			t.Error(l, err)
		}
	}
}

func TestP8_2TheGreatestSlot(t *testing.T) {
	_, _, h := fresh(t, 3, 2)
	for i := range 127 {
		inserts(t, h, "", 128+i, api.OK)
	}
	inserts(t, h, "", 256, api.OK)
	gets(t, h, 254, "", api.OK)
	gets(t, h, 255, "", api.ErrNone)
	deletes(t, h, 255, api.ErrNone)
	puts(t, h, 255, "", api.ErrNone)
	puts(t, h, 254, "x", api.ErrFull)
	puts(t, h, 254, "", api.OK)
	deletes(t, h, 254, api.OK)
	gets(t, h, 254, "", api.ErrNone)
	tellsPlaces(t, h, append(count(128, 253), 256), api.OK)
}

func TestP8_2PagesOfOtherBytesOfTheMap(t *testing.T) {
	p, h := on(t, filled(t, 40, 6), 2)
	for at := 7; at < 20; at++ {
		inserts(t, h, row('x', 400), 128*at, api.OK)
	}
	hasBits(t, p, 0xfe, 0xff, 0x0f)
	for _, at := range []int{8, 16, 7, 15, 19, 9} {
		deletes(t, h, 128*at, api.OK)
	}
	hasBits(t, p, 0x7e, 0x7c, 0x06)
	tellsPages(t, h, []int{1, 2, 3, 4, 5, 6, 10, 11, 12, 13, 14, 17, 18}, api.OK)
	for _, at := range []int{7, 8, 9, 15, 16, 19, 20} {
		inserts(t, h, row('y', 300), 128*at, api.OK)
	}
	hasBits(t, p, 0xfe, 0xff, 0x1f)
	tellsPages(t, h, count(1, 20), api.OK)
}

// Of pages above 4095 the map has no bit.
func TestP8_2TheLastPageOfTheMap(t *testing.T) {
	for _, sectors := range []int{4095, 4096, 4097, api.MaxSectors} {
		last := min(sectors, 4096) - 1
		d := filled(t, sectors, last-1)
		if sectors > 4096 {
			d.Write(4096, row('g', 512)) // no page
			s, _, _ := page.Insert(page.Empty(), "none of the heap's")
			d.Write(sectors-1, s)
			d.Flush()
		}
		p, h := on(t, d, 3)
		inserts(t, h, row('x', 400), 128*last, api.OK)
		gets(t, h, 128*last, row('x', 400), api.OK)
		inserts(t, h, row('y', 100), 128*last+1, api.OK)
		inserts(t, h, "", 0, api.ErrFull)
		for _, place := range []int{128 * (last + 1), 128*(last+1) + 1, 4096 * 128, 4096*128 + 1, 128 * (api.MaxSectors - 1)} {
			gets(t, h, place, "", api.ErrNone)
			deletes(t, h, place, api.ErrNone)
			puts(t, h, place, "", api.ErrNone)
		}
		tellsPages(t, h, count(1, last), api.OK)
		if l, err := h.Places(); len(l) != 2*last || l[len(l)-1] != 128*last+1 || err != api.OK {
			t.Error(sectors, len(l), err)
		}
		deletes(t, h, 128*last, api.OK)
		deletes(t, h, 128*last+1, api.OK)
		tellsPages(t, h, count(1, last-1), api.OK)
		nothingPinned(t, p)
	}
}

func TestP8_2PagesThatAreNotGood(t *testing.T) {
	bad := row('g', 512)
	for _, at := range []int{1, 2, 3, 4} {
		d := filled(t, 5, 2)
		d.Write(at, bad)
		p, h := on(t, d, 3)
		// Where another page is asked, this one is not needed.
		for other := 1; other < 5; other++ {
			want := api.OK
			switch {
			case other == at:
				want = api.ErrForm
			case other > 2:
				want = api.ErrNone
			}
			place := 128 * other
			a, _ := h.Get(place)
			gets(t, h, place, a, want)
			puts(t, h, place, "new", want)
			deletes(t, h, place, want)
			gets(t, h, 128*other+127, "", api.ErrNone)
			deletes(t, h, 128*other+127, api.ErrNone)
			puts(t, h, 128*other+127, row('x', 401), api.ErrNone)
		}
		puts(t, h, 128*at, row('x', 401), api.ErrForm)
		puts(t, h, 128*at+126, row('x', 401), api.ErrForm)
		inserts(t, h, row('x', 401), 0, api.ErrLong)
		tellsPages(t, h, list(1, 2), api.OK)
		if peek(t, p, at) != bad || slices.Contains(p.Dirty(), at) {
			t.Errorf("page %d is changed", at)
		}
		nothingPinned(t, p)
	}
}

func TestP8_2InsertNeedsThePagesUpToItsOwn(t *testing.T) {
	for bad := 1; bad < 6; bad++ {
		d := filled(t, 6, 2)
		d.Write(bad, row('g', 512))
		p, h := on(t, d, 2)
		want, err := 3*128, api.OK
		if bad <= 3 {
			want, err = 0, api.ErrForm
		}
		inserts(t, h, row('x', 400), want, err)
		nothingPinned(t, p)
		if dirty := len(p.Dirty()) > 0; dirty != (err == api.OK) {
			t.Errorf("page %d is none: dirty %v", bad, p.Dirty())
		}
	}
}

func TestP8_3PlacesNeedsThePagesThatHaveRows(t *testing.T) {
	for bad := 1; bad < 6; bad++ {
		d := filled(t, 6, 3)
		d.Write(bad, row('g', 512))
		p, h := on(t, d, 2)
		if bad <= 3 {
			tellsPlaces(t, h, nil, api.ErrForm)
		} else {
			tellsPlaces(t, h, list(128, 129, 256, 257, 384, 385), api.OK)
		}
		tellsPages(t, h, count(1, 3), api.OK)
		nothingPinned(t, p)
	}
}

func TestP8_3AnErrorOfThePoolAtEachPage(t *testing.T) {
	for held := range 5 {
		d := filled(t, 6, 5)
		p, h := on(t, d, 8)
		for at := range held {
			peek(t, p, at)
		}
		d.Arm(0)
		tellsPlaces(t, h, nil, api.ErrDown)
		nothingPinned(t, p)
		if held > 0 {
			tellsPages(t, h, count(1, 5), api.OK)
		} else {
			tellsPages(t, h, nil, api.ErrDown)
		}
		d.Arm(-1)
		if l, err := h.Places(); len(l) != 10 || err != api.OK {
			t.Error(l, err)
		}
	}
}

func TestP8_3PlacesAndPagesRise(t *testing.T) {
	_, _, h := fresh(t, 5, 3)
	for range 4 {
		h.Insert(row('a', 390))
	}
	for at := 1; at <= 3; at++ {
		inserts(t, h, "x", 128*at+1, api.OK)
		inserts(t, h, "x", 128*at+2, api.OK)
		deletes(t, h, 128*at+1, api.OK)
		puts(t, h, 128*at+2, row('b', 106), api.OK)
	}
	tellsPlaces(t, h, list(128, 130, 256, 258, 384, 386, 512), api.OK)
	tellsPages(t, h, list(1, 2, 3, 4), api.OK)
	deletes(t, h, 128, api.OK)
	deletes(t, h, 512, api.OK)
	tellsPlaces(t, h, list(130, 256, 258, 384, 386), api.OK)
	tellsPages(t, h, list(1, 2, 3), api.OK)
}

func TestP8_3ListsAreNewMemory(t *testing.T) {
	_, h := on(t, filled(t, 5, 3), 2)
	for range 2 {
		a, _ := h.Places()
		b, _ := h.Pages()
		for _, l := range [][]int{a[:cap(a)], b[:cap(b)]} {
			for i := range l {
				l[i] = 7
			}
		}
		tellsPlaces(t, h, list(128, 129, 256, 257, 384, 385), api.OK)
		tellsPages(t, h, list(1, 2, 3), api.OK)
	}
}

func TestP8_2RowsAreNotKeptAndAreNewMemory(t *testing.T) {
	_, p, h := fresh(t, 3, 2)
	b := []byte("a row of someone's")
	handed := unsafe.String(&b[0], len(b))
	inserts(t, h, handed, 128, api.OK)
	inserts(t, h, "to be another", 129, api.OK)
	puts(t, h, 129, handed, api.OK)
	want := string(b)
	for i := range b {
		b[i] = 'x'
	}
	gets(t, h, 128, want, api.OK)
	gets(t, h, 129, want, api.OK)
	one, _ := h.Get(128)
	two, _ := h.Get(128)
	if unsafe.StringData(one) == unsafe.StringData(two) {
		t.Error("two answers share memory")
	}
	nothingPinned(t, p)
}

func TestP8_4ABitIsSetJustWhereThereIsARow(t *testing.T) {
	r := rand.New(rand.NewSource(8))
	_, p, h := fresh(t, 12, 2)
	for i := range 1500 {
		l, _ := h.Places()
		// It fills and it empties, by turns.
		if n := len(l); n == 0 || r.Intn(3) != i/150%2 {
			h.Insert(row('r', r.Intn(401)))
		} else {
			h.Delete(l[r.Intn(n)])
		}
		bits := peek(t, p, 0)
		for at := range 12 {
			rows := at > 0 && len(page.Slots(peek(t, p, at))) > 0
			if set := bits[at/8]>>(at%8)&1 == 1; set != rows {
				t.Fatalf("%d: page %d has rows: %v, its bit is set: %v", i, at, rows, set)
			}
		}
		if bits[2:] != row(0, 510) {
			t.Fatalf("%d: bits of pages that are not there: %x", i, bits)
		}
	}
}

// Page 0 is written again only where a bit is another one.
func TestP8_4PageZeroIsSetWhereABitIsAnotherOne(t *testing.T) {
	p, h := on(t, filled(t, 5, 2), 3)
	for _, x := range []struct {
		name  string
		call  func() api.Errno
		dirty []int
	}{
		{"Put", func() api.Errno { return h.Put(129, row('p', 50)) }, list(1)},
		{"Insert beside rows", func() api.Errno { _, err := h.Insert("x"); return err }, list(1)},
		{"Delete beside rows", func() api.Errno { return h.Delete(130) }, list(1)},
		{"Insert into a free page", func() api.Errno { _, err := h.Insert(row('x', 400)); return err }, list(0, 3)},
		{"Delete of a page's last row", func() api.Errno { return h.Delete(384) }, list(0, 3)},
	} {
		if err := x.call(); err != api.OK {
			t.Errorf("%s: error %d", x.name, err)
		}
		if !slices.Equal(p.Dirty(), x.dirty) {
			t.Errorf("%s: dirty %v; want %v", x.name, p.Dirty(), x.dirty)
		}
		p.Flush()
	}
}

func TestP8_2Example(t *testing.T) {
	_, _, h := fresh(t, 2, 2)
	inserts(t, h, "oak", 128, api.OK)
}
