package pool

import (
	"fmt"
	"math"
	"math/rand"
	"slices"
	"strings"
	"testing"
	"unsafe"

	"hedgerow/api"
	"hedgerow/dev"
)

// full: a sector's bytes, all of them c.
func full(c byte) string { return strings.Repeat(string([]byte{c}), api.Sector) }

// far: numbers that are no sector of a device of few.
var far = []int{-1, -2, math.MinInt, math.MinInt + 1, math.MinInt32, math.MaxInt, math.MaxInt - 1, math.MaxInt32, api.MaxSectors, 1 << 32}

func fresh(t *testing.T, sectors, frames int) (*dev.Dev, *Pool) {
	t.Helper()
	d, err := dev.New(sectors)
	if err != api.OK {
		t.Fatal("no device:", err)
	}
	p, err := New(d, frames)
	if err != api.OK || p == nil {
		t.Fatalf("New of %d frames: error %d", frames, err)
	}
	return d, p
}

func pins(t *testing.T, p *Pool, at int, want string) {
	t.Helper()
	if s, err := p.Pin(at); s != want || err != api.OK {
		t.Errorf("Pin(%d): %s, error %d; want %s", at, short(s), err, short(want))
	}
}

func refusesToPin(t *testing.T, p *Pool, at int, want api.Errno) {
	t.Helper()
	if s, err := p.Pin(at); s != "" || err != want {
		t.Errorf("Pin(%d): %s, error %d; want error %d and no bytes", at, short(s), err, want)
	}
}

func sets(t *testing.T, p *Pool, at int, s string, want api.Errno) {
	t.Helper()
	if err := p.Set(at, s); err != want {
		t.Errorf("Set(%d, %d bytes): error %d; want %d", at, len(s), err, want)
	}
}

func unpins(t *testing.T, p *Pool, at int, want api.Errno) {
	t.Helper()
	if err := p.Unpin(at); err != want {
		t.Errorf("Unpin(%d): error %d; want %d", at, err, want)
	}
}

func flushes(t *testing.T, p *Pool, want api.Errno) {
	t.Helper()
	if err := p.Flush(); err != want {
		t.Errorf("Flush: error %d; want %d", err, want)
	}
}

func evicts(t *testing.T, p *Pool, n int, want api.Errno) {
	t.Helper()
	if err := p.Evict(n); err != want {
		t.Errorf("Evict(%d): error %d; want %d", n, err, want)
	}
}

func list(l ...int) []int { return l }

func holds(t *testing.T, p *Pool, held, dirty []int) {
	t.Helper()
	if !slices.Equal(p.Held(), held) || !slices.Equal(p.Dirty(), dirty) {
		t.Errorf("Held %v, Dirty %v; want %v, %v", p.Held(), p.Dirty(), held, dirty)
	}
}

func counts(t *testing.T, p *Pool, reads, writes int) {
	t.Helper()
	if p.Reads() != reads || p.Writes() != writes {
		t.Errorf("Reads %d, Writes %d; want %d, %d", p.Reads(), p.Writes(), reads, writes)
	}
}

// onDevice holds a sector against what it must be.
func onDevice(t *testing.T, d *dev.Dev, at int, want string) {
	t.Helper()
	if s, err := d.Read(at); s != want || err != api.OK {
		t.Errorf("sector %d: %s, error %d; want %s", at, short(s), err, short(want))
	}
}

// visit pins and unpins: each of the pages is held then.
func visit(t *testing.T, p *Pool, l ...int) {
	t.Helper()
	for _, at := range l {
		if _, err := p.Pin(at); err != api.OK {
			t.Fatalf("Pin(%d): error %d", at, err)
		}
		unpins(t, p, at, api.OK)
	}
}

// change is what visit is, with a Set between.
func change(t *testing.T, p *Pool, at int, s string) {
	t.Helper()
	if _, err := p.Pin(at); err != api.OK {
		t.Fatalf("Pin(%d): error %d", at, err)
	}
	sets(t, p, at, s, api.OK)
	unpins(t, p, at, api.OK)
}

func TestP7_1New(t *testing.T) {
	d, _ := dev.New(5)
	for _, n := range []int{1, 2, 5, 6, api.MaxFrames - 1, api.MaxFrames} {
		p, err := New(d, n)
		if p == nil || err != api.OK {
			t.Fatalf("New of %d frames: error %d", n, err)
		}
		holds(t, p, nil, nil)
		counts(t, p, 0, 0)
	}
	for _, n := range []int{0, -1, -2, api.MaxFrames + 1, 2 * api.MaxFrames, 1<<32 + 1, math.MaxInt, math.MinInt, math.MaxInt32, math.MinInt32} {
		if p, err := New(d, n); p != nil || err != api.ErrArg {
			t.Errorf("New of %d frames: %v, error %d", n, p != nil, err)
		}
	}
	for _, n := range []int{0, 1, api.MaxFrames, api.MaxFrames + 1, -1} {
		if p, err := New(nil, n); p != nil || err != api.ErrArg {
			t.Errorf("New of no device, %d frames: %v, error %d", n, p != nil, err)
		}
	}
	if d.Ops() != 0 {
		t.Error("New made operations:", d.Ops())
	}
}

func TestP7_1NewWithoutPower(t *testing.T) {
	d, _ := dev.New(1)
	d.Arm(0)
	p, err := New(d, 1)
	if err != api.OK {
		t.Fatal(err)
	}
	refusesToPin(t, p, 0, api.ErrDown)
	d.Arm(-1)
	pins(t, p, 0, full(0))
}

func TestP7_1ThereAreAsManyFramesAsAsked(t *testing.T) {
	for _, n := range []int{1, 2, 3, api.MaxFrames - 1, api.MaxFrames} {
		_, p := fresh(t, n+1, n)
		var all []int
		for at := range n {
			pins(t, p, at, full(0))
			all = append(all, at)
		}
		refusesToPin(t, p, n, api.ErrPinned)
		holds(t, p, all, nil)
		counts(t, p, n, 0)
	}
}

func TestP7_1AsManyFramesAsSectorsAndMore(t *testing.T) {
	for _, n := range []int{3, 4, api.MaxFrames} {
		d, p := fresh(t, 3, n)
		for _, at := range []int{2, 0, 1, 2, 1, 0} {
			change(t, p, at, full(byte('a'+at)))
		}
		holds(t, p, list(0, 1, 2), list(0, 1, 2))
		counts(t, p, 3, 0)
		if d.Ops() != 0 {
			t.Errorf("%d frames: %d operations", n, d.Ops())
		}
	}
}

func TestP7_1PoolsAreApart(t *testing.T) {
	_, p := fresh(t, 2, 1)
	_, q := fresh(t, 2, 1)
	pins(t, p, 0, full(0))
	sets(t, p, 0, full('a'), api.OK)
	holds(t, q, nil, nil)
	pins(t, q, 0, full(0))
	pins(t, p, 0, full('a'))
	refusesToPin(t, q, 1, api.ErrPinned)
}

func TestP7_1Nil(t *testing.T) {
	var p *Pool
	for _, at := range append(slices.Clone(far), 0, 1) {
		refusesToPin(t, p, at, api.ErrArg)
		unpins(t, p, at, api.ErrArg)
		evicts(t, p, at, api.ErrArg)
		for _, s := range []string{"", full('a'), full('a') + "a"} {
			sets(t, p, at, s, api.ErrArg)
		}
	}
	flushes(t, p, api.ErrArg)
	holds(t, p, nil, nil)
	counts(t, p, 0, 0)
}

func TestP7_2WhichSectorsAreThere(t *testing.T) {
	for _, n := range []int{1, 2, 9, api.MaxSectors} {
		d, p := fresh(t, n, 2)
		d.Write(0, full('f'))
		d.Write(n-1, full('l'))
		for _, at := range append([]int{-n, n, n + 1}, far...) {
			if at < 0 || at >= n {
				refusesToPin(t, p, at, api.ErrPlace)
				sets(t, p, at, full('a'), api.ErrNone)
				unpins(t, p, at, api.ErrNone)
			}
		}
		holds(t, p, nil, nil)
		counts(t, p, 0, 0)
		first := full('f')
		if n == 1 {
			first = full('l')
		}
		pins(t, p, 0, first)
		pins(t, p, n-1, full('l'))
	}
}

func TestP7_2PinTellsWhatTheDeviceHas(t *testing.T) {
	d, p := fresh(t, 9, 2)
	r := rand.New(rand.NewSource(7))
	var want []string
	for at := range 9 {
		b := make([]byte, api.Sector)
		r.Read(b)
		want = append(want, string(b))
		d.Write(at, string(b))
	}
	for _, at := range []int{8, 0, 4, 4, 1, 2, 0, 7, 3, 5, 6, 8} {
		pins(t, p, at, want[at])
		unpins(t, p, at, api.OK)
	}
	counts(t, p, 11, 0)
}

func TestP7_2WhatIsHeldIsNotReadAgain(t *testing.T) {
	d, p := fresh(t, 3, 2)
	pins(t, p, 1, full(0))
	sets(t, p, 1, full('a'), api.OK)
	d.Arm(0)
	for range 5 {
		pins(t, p, 1, full('a'))
	}
	for range 6 {
		unpins(t, p, 1, api.OK)
	}
	pins(t, p, 1, full('a'))
	counts(t, p, 1, 0)
	holds(t, p, list(1), list(1))
}

func TestP7_2PinnedTwice(t *testing.T) {
	_, p := fresh(t, 2, 1)
	pins(t, p, 0, full(0))
	pins(t, p, 0, full(0))
	refusesToPin(t, p, 1, api.ErrPinned)
	unpins(t, p, 0, api.OK)
	refusesToPin(t, p, 1, api.ErrPinned)
	sets(t, p, 0, full('a'), api.OK)
	evicts(t, p, 0, api.ErrNone)
	unpins(t, p, 0, api.OK)
	unpins(t, p, 0, api.ErrNone)
	sets(t, p, 0, full('b'), api.ErrNone)
	holds(t, p, list(0), list(0))
	pins(t, p, 1, full(0))
	holds(t, p, list(1), nil)
}

func TestP7_2UnpinOnceMoreTakesNoPinAway(t *testing.T) {
	_, p := fresh(t, 2, 1)
	visit(t, p, 0)
	for range 3 {
		unpins(t, p, 0, api.ErrNone)
	}
	pins(t, p, 0, full(0))
	refusesToPin(t, p, 1, api.ErrPinned)
	unpins(t, p, 0, api.OK)
	pins(t, p, 1, full(0))
}

func TestP7_2PinnedManyTimes(t *testing.T) {
	_, p := fresh(t, 2, 1)
	for range 1000 {
		pins(t, p, 0, full(0))
	}
	for range 1000 {
		refusesToPin(t, p, 1, api.ErrPinned)
		unpins(t, p, 0, api.OK)
	}
	unpins(t, p, 0, api.ErrNone)
	pins(t, p, 1, full(0))
}

func TestP7_2AnotherPinOfAPageThatWasGivenUp(t *testing.T) {
	_, p := fresh(t, 3, 1)
	pins(t, p, 0, full(0))
	pins(t, p, 0, full(0))
	unpins(t, p, 0, api.OK)
	unpins(t, p, 0, api.OK)
	visit(t, p, 1)
	// The frame has none of the pins that it had.
	pins(t, p, 2, full(0))
	unpins(t, p, 2, api.OK)
	unpins(t, p, 2, api.ErrNone)
	unpins(t, p, 0, api.ErrNone)
	unpins(t, p, 1, api.ErrNone)
}

func TestP7_2AFrameThatHoldsNothingIsTakenFirst(t *testing.T) {
	d, p := fresh(t, 9, 3)
	visit(t, p, 0)
	visit(t, p, 1)
	holds(t, p, list(0, 1), nil)
	visit(t, p, 2)
	holds(t, p, list(0, 1, 2), nil)
	evicts(t, p, 2, api.OK)
	holds(t, p, list(0, 1), nil)
	visit(t, p, 3)
	holds(t, p, list(0, 1, 3), nil)
	d.Arm(0)
	refusesToPin(t, p, 4, api.ErrDown)
	d.Arm(-1)
	holds(t, p, list(1, 3), nil)
	visit(t, p, 5)
	holds(t, p, list(1, 3, 5), nil)
	visit(t, p, 6)
	holds(t, p, list(3, 5, 6), nil)
}

func TestP7_2AllPinnedAndAllButOne(t *testing.T) {
	for _, n := range []int{1, 2, 3, api.MaxFrames} {
		d, p := fresh(t, n+1, n)
		for at := range n {
			pins(t, p, at, full(0))
			sets(t, p, at, full('a'), api.OK)
		}
		all := p.Held()
		for _, fault := range []int{-1, 0} {
			d.Arm(fault)
			refusesToPin(t, p, n, api.ErrPinned)
			evicts(t, p, 0, api.ErrNone)
		}
		d.Arm(-1)
		holds(t, p, all, all)
		counts(t, p, n, 0)
		for at := range n {
			unpins(t, p, at, api.OK)
			pins(t, p, n, full(0))
			if slices.Contains(p.Held(), at) || len(p.Held()) != n {
				t.Errorf("%d frames, all pinned but %d: Held %v", n, at, p.Held())
			}
			refusesToPin(t, p, at, api.ErrPinned)
			unpins(t, p, n, api.OK)
			pins(t, p, at, full('a'))
		}
	}
}

// orders: all orders of these numbers.
func orders(l []int) [][]int {
	if len(l) == 0 {
		return [][]int{nil}
	}
	var all [][]int
	for i, n := range l {
		for _, rest := range orders(slices.Concat(l[:i], l[i+1:])) {
			all = append(all, append([]int{n}, rest...))
		}
	}
	return all
}

// givenUp: which pages are given up, one behind the other, for pages from 4 on.
func givenUp(t *testing.T, p *Pool) []int {
	t.Helper()
	var gone []int
	for at := 4; at < 8; at++ {
		before := p.Held()
		if _, err := p.Pin(at); err != api.OK {
			t.Fatalf("Pin(%d): error %d", at, err)
		}
		for _, was := range before {
			if !slices.Contains(p.Held(), was) {
				gone = append(gone, was)
			}
		}
	}
	return gone
}

func TestP7_2WhichFrameIsGivenUp(t *testing.T) {
	all := list(0, 1, 2, 3)
	for _, first := range orders(all) {
		for _, last := range orders(all) {
			// What was unpinned last was used last, whatever came ahead of that.
			ways := map[string]func(p *Pool){
				"unpinned": func(p *Pool) {
					for _, at := range last {
						unpins(t, p, at, api.OK)
					}
				},
				"set in another order, unpinned": func(p *Pool) {
					for _, at := range slices.Backward(last) {
						sets(t, p, at, full('a'), api.OK)
					}
					for _, at := range last {
						unpins(t, p, at, api.OK)
					}
				},
				"pinned again in another order, unpinned twice": func(p *Pool) {
					for _, at := range slices.Backward(last) {
						pins(t, p, at, full(0))
						unpins(t, p, at, api.OK)
					}
					for _, at := range last {
						unpins(t, p, at, api.OK)
					}
				},
				"unpinned in another order, pinned and unpinned": func(p *Pool) {
					for _, at := range slices.Backward(last) {
						unpins(t, p, at, api.OK)
					}
					visit(t, p, last...)
				},
			}
			for name, way := range ways {
				_, p := fresh(t, 8, 4)
				for _, at := range first {
					pins(t, p, at, full(0))
				}
				way(p)
				if gone := givenUp(t, p); !slices.Equal(gone, last) {
					t.Fatalf("pinned %v, %s %v: given up %v", first, name, last, gone)
				}
			}
		}
	}
}

func TestP7_2WhatIsNoUse(t *testing.T) {
	for name, way := range map[string]func(d *dev.Dev, p *Pool){
		"nothing": func(d *dev.Dev, p *Pool) {},
		"Unpin of what is not pinned": func(d *dev.Dev, p *Pool) {
			unpins(t, p, 0, api.ErrNone)
		},
		"Set of what is not pinned": func(d *dev.Dev, p *Pool) {
			sets(t, p, 0, full('a'), api.ErrNone)
			sets(t, p, 0, "", api.ErrNone)
		},
		"Flush": func(d *dev.Dev, p *Pool) {
			flushes(t, p, api.OK)
		},
		"Flush that is refused": func(d *dev.Dev, p *Pool) {
			d.Refuse(2)
			flushes(t, p, api.ErrBroken)
		},
		"Held and the like": func(d *dev.Dev, p *Pool) {
			p.Held()
			p.Dirty()
			p.Reads()
			p.Writes()
		},
		"what can't be given up": func(d *dev.Dev, p *Pool) {
			d.Refuse(1)
			refusesToPin(t, p, 7, api.ErrBroken)
			d.Refuse(1)
			evicts(t, p, 0, api.ErrBroken)
			d.Arm(0)
			refusesToPin(t, p, 7, api.ErrDown)
			evicts(t, p, 1, api.ErrDown)
			d.Arm(-1)
		},
		"a page that can't be": func(d *dev.Dev, p *Pool) {
			refusesToPin(t, p, 8, api.ErrPlace)
			refusesToPin(t, p, -1, api.ErrPlace)
		},
	} {
		d, p := fresh(t, 8, 4)
		for at := range 4 {
			change(t, p, at, full('a'))
		}
		way(d, p)
		if gone := givenUp(t, p); !slices.Equal(gone, list(0, 1, 2, 3)) {
			t.Errorf("%s: given up %v", name, gone)
		}
	}
}

func TestP7_2WhatIsGivenUpIsWrittenIfItIsDirty(t *testing.T) {
	d, p := fresh(t, 4, 1)
	visit(t, p, 0, 1, 2)
	counts(t, p, 3, 0)
	if d.Ops() != 0 {
		t.Error("clean pages were written:", d.Ops())
	}
	change(t, p, 1, full('a'))
	holds(t, p, list(1), list(1))
	onDevice(t, d, 1, full(0))
	counts(t, p, 4, 0)
	visit(t, p, 3)
	holds(t, p, list(3), nil)
	counts(t, p, 5, 1)
	onDevice(t, d, 1, full('a'))
	// Written, but not flushed.
	if d.Held() != 1 || d.Ops() != 1 {
		t.Errorf("the device: held %d, ops %d", d.Held(), d.Ops())
	}
	// Read again it is clean.
	visit(t, p, 1)
	holds(t, p, list(1), nil)
	visit(t, p, 0)
	counts(t, p, 7, 1)
	onDevice(t, d, 1, full('a'))
}

func TestP7_2WhatIsDirtyStaysSo(t *testing.T) {
	_, p := fresh(t, 4, 2)
	change(t, p, 1, full('a'))
	visit(t, p, 1, 0, 1, 1)
	holds(t, p, list(0, 1), list(1))
	pins(t, p, 1, full('a'))
	sets(t, p, 1, "", api.ErrLong)
	holds(t, p, list(0, 1), list(1))
}

func TestP7_2WhatCantBeWrittenStays(t *testing.T) {
	for _, fault := range []api.Errno{api.ErrBroken, api.ErrDown} {
		d, p := fresh(t, 5, 3)
		change(t, p, 1, full('a'))
		change(t, p, 0, full('b'))
		pins(t, p, 2, full(0))
		if fault == api.ErrDown {
			d.Arm(0)
		}
		for range 3 {
			if fault == api.ErrBroken {
				d.Refuse(1)
			}
			refusesToPin(t, p, 3, fault)
			holds(t, p, list(0, 1, 2), list(0, 1))
			counts(t, p, 3, 0)
		}
		d.Arm(-1)
		onDevice(t, d, 1, full(0))
		// It is the next one all the same.
		pins(t, p, 3, full(0))
		holds(t, p, list(0, 2, 3), list(0))
		counts(t, p, 4, 1)
		onDevice(t, d, 1, full('a'))
		pins(t, p, 0, full('b'))
	}
}

func TestP7_2WhatCantBeReadLeavesAFrameThatHoldsNothing(t *testing.T) {
	for _, x := range []struct {
		name   string
		dirty  bool
		power  int
		writes int
	}{
		{"a clean page is given up", false, 0, 0},
		{"a dirty page is given up, and written last", true, 1, 1},
	} {
		d, p := fresh(t, 5, 2)
		pins(t, p, 2, full(0))
		visit(t, p, 0)
		if x.dirty {
			change(t, p, 0, full('a'))
		}
		d.Arm(x.power)
		for range 3 {
			refusesToPin(t, p, 3, api.ErrDown)
			holds(t, p, list(2), nil)
			counts(t, p, 2, x.writes)
		}
		unpins(t, p, 3, api.ErrNone)
		sets(t, p, 3, full('x'), api.ErrNone)
		d.Arm(-1)
		unpins(t, p, 2, api.OK)
		pins(t, p, 3, full(0))
		// A frame that held nothing was taken, 2 is there.
		holds(t, p, list(2, 3), nil)
		counts(t, p, 3, x.writes)
		unpins(t, p, 3, api.OK)
		unpins(t, p, 3, api.ErrNone)
		if x.dirty {
			pins(t, p, 0, full('a'))
		}
	}
}

func TestP7_2NoFrameIsLostByReadsThatFail(t *testing.T) {
	d, p := fresh(t, 9, 3)
	d.Arm(0)
	for at := range 9 {
		refusesToPin(t, p, at, api.ErrDown)
	}
	holds(t, p, nil, nil)
	counts(t, p, 0, 0)
	d.Arm(-1)
	for _, at := range []int{4, 5, 6} {
		pins(t, p, at, full(0))
	}
	refusesToPin(t, p, 7, api.ErrPinned)
	holds(t, p, list(4, 5, 6), nil)
}

func TestP7_2WhichErrorIsTold(t *testing.T) {
	d, p := fresh(t, 4, 1)
	pins(t, p, 0, full(0))
	sets(t, p, 0, full('a'), api.OK)
	d.Arm(0)
	for _, at := range far {
		refusesToPin(t, p, at, api.ErrPlace)
		unpins(t, p, at, api.ErrNone)
		sets(t, p, at, "", api.ErrNone)
	}
	refusesToPin(t, p, 1, api.ErrPinned)
	for _, s := range []string{"", "a", full('a')[1:], full('a') + "a"} {
		sets(t, p, 0, s, api.ErrLong)
		sets(t, p, 1, s, api.ErrNone)
	}
	unpins(t, p, 0, api.OK)
	for _, s := range []string{"", full('a'), full('a') + "a"} {
		sets(t, p, 0, s, api.ErrNone)
	}
	// The write comes ahead of the read.
	d.Arm(-1)
	d.Refuse(1)
	refusesToPin(t, p, 1, api.ErrBroken)
	holds(t, p, list(0), list(0))
	d.Refuse(0)
	pins(t, p, 0, full('a'))
}

func TestP7_2Set(t *testing.T) {
	d, p := fresh(t, 3, 2)
	sets(t, p, 1, full('x'), api.ErrNone)
	pins(t, p, 1, full(0))
	for _, n := range []int{0, 1, 511, 513, 1024, 1 << 20} {
		sets(t, p, 1, strings.Repeat("l", n), api.ErrLong)
	}
	holds(t, p, list(1), nil)
	pins(t, p, 1, full(0))
	all := strings.Repeat("\x00\x01\x7f\x80\xfe\xff\xc3\x28", 64)
	for _, s := range []string{full('a'), full(0), all, full(0xff)} {
		sets(t, p, 1, s, api.OK)
		pins(t, p, 1, s)
		holds(t, p, list(1), list(1))
	}
	// Of another page, or not pinned.
	sets(t, p, 0, full('x'), api.ErrNone)
	visit(t, p, 2)
	sets(t, p, 2, full('x'), api.ErrNone)
	pins(t, p, 2, full(0))
	holds(t, p, list(1, 2), list(1))
	counts(t, p, 2, 0)
	if d.Ops() != 0 {
		t.Error("Set wrote:", d.Ops())
	}
}

func TestP7_2SetOfTheSameBytesIsDirty(t *testing.T) {
	d, p := fresh(t, 2, 1)
	pins(t, p, 0, full(0))
	sets(t, p, 0, full(0), api.OK)
	holds(t, p, list(0), list(0))
	unpins(t, p, 0, api.OK)
	pins(t, p, 1, full(0))
	counts(t, p, 2, 1)
	if d.Held() != 1 {
		t.Error("held back:", d.Held())
	}
}

func TestP7_2AnswersAreNewMemory(t *testing.T) {
	_, p := fresh(t, 2, 1)
	room := []byte(full('a'))
	s := unsafe.String(&room[0], len(room))
	pins(t, p, 0, full(0))
	sets(t, p, 0, s, api.OK)
	first, _ := p.Pin(0)
	second, _ := p.Pin(0)
	if unsafe.StringData(first) == unsafe.StringData(second) || unsafe.StringData(first) == &room[0] {
		t.Error("two answers, or an answer and what was set, share their bytes")
	}
	clear(room)
	pins(t, p, 0, full('a'))
	flushes(t, p, api.OK)
	pins(t, p, 0, full('a'))
}

func TestP7_2WhatIsReadIsNewMemory(t *testing.T) {
	_, p := fresh(t, 2, 2)
	var all []string
	for range 3 {
		for at := range 2 {
			s, _ := p.Pin(at)
			all = append(all, s)
		}
	}
	for i := range all {
		for j := range i {
			if unsafe.StringData(all[i]) == unsafe.StringData(all[j]) {
				t.Errorf("answers %d and %d share their bytes", j, i)
			}
		}
	}
}

func TestP7_3FlushOfNothing(t *testing.T) {
	d, p := fresh(t, 3, 2)
	flushes(t, p, api.OK)
	visit(t, p, 0, 1, 2)
	flushes(t, p, api.OK)
	if d.Ops() != 2 {
		t.Error("the device was flushed", d.Ops(), "times")
	}
	counts(t, p, 3, 0)
	// What others of the pool wrote is flushed.
	change(t, p, 0, full('a'))
	visit(t, p, 1, 2)
	if d.Held() != 1 {
		t.Error("held back:", d.Held())
	}
	holds(t, p, list(1, 2), nil)
	flushes(t, p, api.OK)
	if d.Held() != 0 {
		t.Error("held back:", d.Held())
	}
	d.Arm(0)
	flushes(t, p, api.ErrDown)
	counts(t, p, 6, 1)
}

// someDirty: pages 7, 2, 4, 0 are dirty, 4 and 2 are pinned, 3 and 5 are clean.
func someDirty(t *testing.T) (*dev.Dev, *Pool) {
	t.Helper()
	d, p := fresh(t, 9, 6)
	for _, at := range []int{7, 2, 3, 4, 5, 0} {
		pins(t, p, at, full(0))
		if at != 3 && at != 5 {
			sets(t, p, at, full(byte('0'+at)), api.OK)
		}
	}
	for _, at := range []int{7, 0, 3} {
		unpins(t, p, at, api.OK)
	}
	holds(t, p, list(0, 2, 3, 4, 5, 7), list(0, 2, 4, 7))
	return d, p
}

func TestP7_3FlushOfSeveral(t *testing.T) {
	d, p := someDirty(t)
	flushes(t, p, api.OK)
	holds(t, p, list(0, 2, 3, 4, 5, 7), nil)
	counts(t, p, 6, 4)
	if d.Ops() != 5 || d.Held() != 0 {
		t.Errorf("the device: ops %d, held %d", d.Ops(), d.Held())
	}
	flushes(t, p, api.OK)
	counts(t, p, 6, 4)
	d.Crash(nil)
	for _, at := range []int{0, 2, 4, 7} {
		onDevice(t, d, at, full(byte('0'+at)))
	}
	for _, at := range []int{1, 3, 5, 6, 8} {
		onDevice(t, d, at, full(0))
	}
	// What was pinned is so still, what was not is not.
	for at, want := range map[int]api.Errno{0: api.ErrNone, 2: api.OK, 3: api.ErrNone, 4: api.OK, 5: api.OK, 7: api.ErrNone} {
		unpins(t, p, at, want)
	}
}

func TestP7_3FlushEndsAtTheFirstError(t *testing.T) {
	rising := []int{0, 2, 4, 7}
	for n := range rising {
		for _, fault := range []api.Errno{api.ErrBroken, api.ErrDown} {
			d, p := someDirty(t)
			if fault == api.ErrBroken {
				d.Refuse(n + 1)
			} else {
				d.Arm(n)
			}
			flushes(t, p, fault)
			holds(t, p, list(0, 2, 3, 4, 5, 7), rising[n:])
			counts(t, p, 6, n)
			if d.Held() != n || d.Ops() != n {
				t.Errorf("%d writes: held %d, ops %d", n, d.Held(), d.Ops())
			}
			d.Arm(-1)
			for i, at := range rising {
				want := full(0)
				if i < n {
					want = full(byte('0' + at))
				}
				onDevice(t, d, at, want)
			}
			flushes(t, p, api.OK)
			holds(t, p, list(0, 2, 3, 4, 5, 7), nil)
			counts(t, p, 6, 4)
			if d.Held() != 0 || d.Ops() != 5 {
				t.Errorf("flushed again: held %d, ops %d", d.Held(), d.Ops())
			}
		}
	}
}

func TestP7_3FlushWhoseLastOperationFails(t *testing.T) {
	d, p := someDirty(t)
	d.Arm(4)
	flushes(t, p, api.ErrDown)
	// All are written, and clean, but not flushed.
	holds(t, p, list(0, 2, 3, 4, 5, 7), nil)
	counts(t, p, 6, 4)
	if d.Held() != 4 {
		t.Error("held back:", d.Held())
	}
	d.Arm(-1)
	flushes(t, p, api.OK)
	counts(t, p, 6, 4)
	if d.Held() != 0 || d.Ops() != 5 {
		t.Errorf("flushed again: held %d, ops %d", d.Held(), d.Ops())
	}
}

// fourLoose: pages 6, 1, 8, 3 may be given up, in that order; 0 and 5 are pinned
// between them.
func fourLoose(t *testing.T) (*dev.Dev, *Pool) {
	t.Helper()
	d, p := fresh(t, 10, 7)
	visit(t, p, 6)
	pins(t, p, 5, full(0))
	visit(t, p, 1, 8)
	pins(t, p, 0, full(0))
	visit(t, p, 3)
	return d, p
}

func TestP7_3WhichOneEvictGivesUp(t *testing.T) {
	for n, want := range map[int]int{
		0: 6, 1: 1, 2: 8, 3: 3, 4: 6, 5: 1, 6: 8, 7: 3, 8: 6, 1000: 6, 1001: 1,
		-1: 3, -2: 8, -3: 1, -4: 6, -5: 3, -8: 6, -9: 3, -1000: 6, -1001: 3,
		math.MaxInt: 3, math.MaxInt - 1: 8, math.MinInt: 6, math.MinInt + 1: 1,
	} {
		_, p := fourLoose(t)
		evicts(t, p, n, api.OK)
		left := slices.DeleteFunc(list(0, 1, 3, 5, 6, 8), func(at int) bool { return at == want })
		if !slices.Equal(p.Held(), left) {
			t.Errorf("Evict(%d): Held %v; want %v", n, p.Held(), left)
		}
	}
	// Of three that may be: these numbers by 3 leave 1.
	for _, n := range []int{math.MaxInt, math.MinInt, 1, -2} {
		_, p := fourLoose(t)
		evicts(t, p, 0, api.OK)
		evicts(t, p, n, api.OK)
		holds(t, p, list(0, 1, 3, 5), nil)
	}
}

func TestP7_3EvictTillThereIsNone(t *testing.T) {
	_, p := fourLoose(t)
	for _, left := range [][]int{{0, 1, 3, 5, 8}, {0, 3, 5, 8}, {0, 3, 5}, {0, 5}} {
		evicts(t, p, 0, api.OK)
		holds(t, p, left, nil)
	}
	for _, n := range []int{0, 1, -1, 7, math.MaxInt, math.MinInt} {
		evicts(t, p, n, api.ErrNone)
	}
	holds(t, p, list(0, 5), nil)
	// What was given up leaves frames that hold nothing.
	for _, at := range []int{1, 2, 3, 4, 6} {
		pins(t, p, at, full(0))
	}
	refusesToPin(t, p, 7, api.ErrPinned)
}

func TestP7_3EvictOfAPoolThatHoldsNothing(t *testing.T) {
	d, p := fresh(t, 3, 2)
	for _, n := range []int{0, 1, 2, -1, math.MaxInt, math.MinInt} {
		evicts(t, p, n, api.ErrNone)
		d.Arm(0)
		evicts(t, p, n, api.ErrNone)
		d.Arm(-1)
	}
	visit(t, p, 0)
	evicts(t, p, 1, api.OK)
	evicts(t, p, 0, api.ErrNone)
}

func TestP7_3EvictWritesWhatIsDirty(t *testing.T) {
	d, p := fourLoose(t)
	change(t, p, 1, full('a'))
	// The order is 6, 8, 3, 1 now.
	reads := p.Reads()
	evicts(t, p, 0, api.OK)
	counts(t, p, reads, 0)
	if d.Ops() != 0 {
		t.Error("a clean page was written")
	}
	evicts(t, p, 2, api.OK)
	holds(t, p, list(0, 3, 5, 8), nil)
	counts(t, p, reads, 1)
	onDevice(t, d, 1, full('a'))
	if d.Ops() != 1 || d.Held() != 1 {
		t.Errorf("the device: ops %d, held %d", d.Ops(), d.Held())
	}
	pins(t, p, 1, full('a'))
	counts(t, p, reads+1, 1)
}

func TestP7_3EvictOfWhatCantBeWritten(t *testing.T) {
	for _, fault := range []api.Errno{api.ErrBroken, api.ErrDown} {
		d, p := fourLoose(t)
		change(t, p, 6, full('a'))
		if fault == api.ErrDown {
			d.Arm(0)
		}
		// The order is 1, 8, 3, 6.
		for range 3 {
			if fault == api.ErrBroken {
				d.Refuse(1)
			}
			evicts(t, p, 3, fault)
			holds(t, p, list(0, 1, 3, 5, 6, 8), list(6))
			counts(t, p, 6, 0)
		}
		// Of a clean page the device is told nothing.
		evicts(t, p, 0, api.OK)
		holds(t, p, list(0, 3, 5, 6, 8), list(6))
		d.Arm(-1)
		d.Refuse(0)
		evicts(t, p, 2, api.OK)
		holds(t, p, list(0, 3, 5, 8), nil)
		counts(t, p, 6, 1)
		onDevice(t, d, 6, full('a'))
	}
}

func TestP7_3HeldAndDirtyRise(t *testing.T) {
	for _, first := range orders(list(0, 3, 9, 10, 11)) {
		_, p := fresh(t, 12, 5)
		for i, at := range first {
			pins(t, p, at, full(0))
			if i%2 == 0 {
				sets(t, p, at, full('a'), api.OK)
			}
		}
		dirty := list(first[0], first[2], first[4])
		slices.Sort(dirty)
		holds(t, p, list(0, 3, 9, 10, 11), dirty)
	}
}

func TestP7_3ListsAreNewMemory(t *testing.T) {
	_, p := fresh(t, 9, 3)
	for at := range 3 {
		change(t, p, at, full('a'))
	}
	for range 2 {
		held, dirty := p.Held(), p.Dirty()
		for _, l := range [][]int{held[:cap(held)], dirty[:cap(dirty)]} {
			for i := range l {
				l[i] = 7
			}
		}
		holds(t, p, list(0, 1, 2), list(0, 1, 2))
	}
}

func TestP7_3ReadsAndWritesAreThoseThatWereOK(t *testing.T) {
	d, p := fresh(t, 3, 1)
	for i := range 10 {
		counts(t, p, 3*i, 2*i)
		change(t, p, 0, full('a'))
		change(t, p, 1, full('b'))
		d.Refuse(1)
		refusesToPin(t, p, 2, api.ErrBroken)
		d.Arm(0)
		refusesToPin(t, p, 2, api.ErrDown)
		refusesToPin(t, p, 3, api.ErrPlace)
		flushes(t, p, api.ErrDown)
		d.Arm(-1)
		visit(t, p, 2)
	}
	flushes(t, p, api.OK)
	counts(t, p, 30, 20)
}

func TestP7_3Example(t *testing.T) {
	_, p := fresh(t, 2, 1)
	pins(t, p, 0, full(0))
	unpins(t, p, 0, api.OK)
	pins(t, p, 1, full(0))
	holds(t, p, list(1), nil)
}

// disturb makes a call that changes no page, and a device that fails, or does not
// any more.
func disturb(r *rand.Rand, d *dev.Dev, p *Pool) {
	switch r.Intn(12) {
	case 0:
		p.Evict(r.Intn(9) - 4)
	case 1:
		p.Flush()
	case 2:
		d.Refuse(r.Intn(4))
	case 3:
		d.Arm(r.Intn(5) - 1)
	case 4:
		d.Arm(-1)
	}
}

// Nothing is known here of frames: pages are what was set there last.
func TestP7_4PagesAreAsTheyWereSetLast(t *testing.T) {
	for seed := range 60 {
		r := rand.New(rand.NewSource(int64(seed)))
		sectors, frames := 1+r.Intn(20), 1+r.Intn(6)
		d, p := fresh(t, sectors, frames)
		last := slices.Repeat([]string{full(0)}, sectors)
		var pinned []int
		for i := range 2000 {
			disturb(r, d, p)
			for len(pinned) > 0 && r.Intn(3) > 0 {
				unpins(t, p, pinned[0], api.OK)
				pinned = pinned[1:]
			}
			at := r.Intn(sectors)
			s, err := p.Pin(at)
			if err != api.OK {
				continue
			}
			pinned = append(pinned, at)
			if s != last[at] {
				t.Fatalf("%d, call %d: page %d is %s; set last was %s", seed, i, at, short(s), short(last[at]))
			}
			if r.Intn(2) == 0 {
				last[at] = fmt.Sprintf("%0512d", i)
				sets(t, p, at, last[at], api.OK)
			}
		}
		if p.Writes() < 20 || p.Reads() < 20 && sectors > frames {
			t.Errorf("%d: nearly nothing was given up: Reads %d, Writes %d", seed, p.Reads(), p.Writes())
		}
		d.Arm(-1)
		d.Refuse(0)
		flushes(t, p, api.OK)
		d.Crash(nil)
		for at, want := range last {
			onDevice(t, d, at, want)
		}
	}
}

func TestP7_4WhateverIsEvictedBetween(t *testing.T) {
	for frames := 1; frames <= 5; frames++ {
		for n := range frames {
			d, p := fresh(t, 10, frames)
			for round := range 3 {
				for at := range 10 {
					change(t, p, at, full(byte('a'+round*10+at)))
					if at%3 == 0 {
						evicts(t, p, n, api.OK)
					}
				}
				for _, at := range []int{3, 9, 0, 1, 8, 8, 2, 4, 7, 5, 6} {
					pins(t, p, at, full(byte('a'+round*10+at)))
					unpins(t, p, at, api.OK)
				}
			}
			for p.Evict(0) == api.OK {
			}
			holds(t, p, nil, nil)
			for at := range 10 {
				onDevice(t, d, at, full(byte('a'+20+at)))
			}
		}
	}
}
