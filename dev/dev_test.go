package dev

import (
	"math"
	"math/rand"
	"slices"
	"strings"
	"testing"
	"unsafe"

	"hedgerow/api"
)

// full: a sector's bytes, all of them c.
func full(c byte) string { return strings.Repeat(string([]byte{c}), api.Sector) }

var zeros = full(0)

// unlike: a sector's bytes, those that stand near each other unlike, so that
// bytes at a wrong place are seen.
func unlike(seed int) string {
	out := make([]byte, api.Sector)
	for i := range out {
		out[i] = byte(seed + i*7 + i/256)
	}
	return string(out)
}

func made(t *testing.T, sectors int) *Dev {
	t.Helper()
	d, err := New(sectors)
	if err != api.OK {
		t.Fatalf("New(%d): error %d", sectors, err)
	}
	return d
}

func reads(t *testing.T, d *Dev, at int, want string) {
	t.Helper()
	if s, err := d.Read(at); s != want || err != api.OK {
		t.Errorf("Read(%d): %.20x.., error %d; want %.20x..", at, s, err, want)
	}
}

func refusesToRead(t *testing.T, d *Dev, at int, want api.Errno) {
	t.Helper()
	if s, err := d.Read(at); s != "" || err != want {
		t.Errorf("Read(%d): %.20x, error %d; want error %d and no bytes", at, s, err, want)
	}
}

func writes(t *testing.T, d *Dev, at int, s string, want api.Errno) {
	t.Helper()
	if err := d.Write(at, s); err != want {
		t.Errorf("Write(%d, %d bytes): error %d; want %d", at, len(s), err, want)
	}
}

func flushes(t *testing.T, d *Dev, want api.Errno) {
	t.Helper()
	if err := d.Flush(); err != want {
		t.Errorf("Flush: error %d; want %d", err, want)
	}
}

func counts(t *testing.T, d *Dev, held, ops int) {
	t.Helper()
	if d.Held() != held || d.Ops() != ops {
		t.Errorf("Held %d, Ops %d; want %d, %d", d.Held(), d.Ops(), held, ops)
	}
}

func isDown(t *testing.T, d *Dev, want bool) {
	t.Helper()
	if d.Down() != want {
		t.Errorf("Down: %v; want %v", !want, want)
	}
}

func TestP4_1NewAndSectors(t *testing.T) {
	for _, n := range []int{1, 2, 7, 8, api.MaxSectors - 1, api.MaxSectors} {
		d := made(t, n)
		if d.Sectors() != n {
			t.Errorf("%d sectors: %d", n, d.Sectors())
		}
		counts(t, d, 0, 0)
		isDown(t, d, false)
		for at := range n {
			reads(t, d, at, zeros)
		}
		refusesToRead(t, d, n, api.ErrPlace)
	}
	for _, n := range []int{0, -1, -2, math.MinInt, api.MaxSectors + 1, 2 * api.MaxSectors, math.MaxInt, math.MaxInt32, math.MinInt32} {
		if d, err := New(n); d != nil || err != api.ErrArg {
			t.Errorf("New(%d): %v, error %d; want error %d and no device", n, d != nil, err, api.ErrArg)
		}
	}
}

func TestP4_1SectorsStays(t *testing.T) {
	d := made(t, 3)
	d.Write(0, full('a'))
	d.Flush()
	d.Arm(0)
	if d.Sectors() != 3 {
		t.Error("without power:", d.Sectors())
	}
	d.Crash(nil)
	if d.Sectors() != 3 {
		t.Error("behind a crash:", d.Sectors())
	}
}

func TestP4_1DevicesAreApart(t *testing.T) {
	a, b := made(t, 2), made(t, 2)
	a.Write(0, full('a'))
	a.Flush()
	a.Refuse(1)
	a.Arm(0)
	reads(t, b, 0, zeros)
	isDown(t, b, false)
	writes(t, b, 0, full('b'), api.OK)
	counts(t, b, 1, 1)
}

func TestP4_1Nil(t *testing.T) {
	var d *Dev
	d.Arm(5)
	d.Arm(-1)
	d.Refuse(1)
	d.Crash(nil)
	d.Crash([]int{1, 2, 3})
	if d.Sectors() != 0 {
		t.Error("Sectors:", d.Sectors())
	}
	counts(t, d, 0, 0)
	isDown(t, d, true)
	flushes(t, d, api.ErrDown)
	for _, at := range []int{0, 1, -1, math.MinInt, math.MaxInt} {
		refusesToRead(t, d, at, api.ErrDown)
		for _, s := range []string{"", full('a'), full('a') + "a"} {
			writes(t, d, at, s, api.ErrDown)
		}
	}
	isDown(t, d, true)
}

func TestP4_2ReadIsWhatWasWrittenLast(t *testing.T) {
	d := made(t, 3)
	writes(t, d, 0, unlike(1), api.OK)
	writes(t, d, 2, unlike(2), api.OK)
	// Held back, and read all the same.
	counts(t, d, 2, 2)
	reads(t, d, 0, unlike(1))
	reads(t, d, 1, zeros)
	reads(t, d, 2, unlike(2))
	flushes(t, d, api.OK)
	reads(t, d, 0, unlike(1))
	reads(t, d, 1, zeros)
	reads(t, d, 2, unlike(2))
	writes(t, d, 0, unlike(3), api.OK)
	writes(t, d, 0, unlike(4), api.OK)
	writes(t, d, 0, unlike(5), api.OK)
	reads(t, d, 0, unlike(5))
	counts(t, d, 3, 6)
	flushes(t, d, api.OK)
	reads(t, d, 0, unlike(5))
	counts(t, d, 0, 7)
}

func TestP4_2TheLastOfSeveralIsFlushed(t *testing.T) {
	d := made(t, 2)
	for _, c := range []byte("abc") {
		writes(t, d, 1, full(c), api.OK)
	}
	flushes(t, d, api.OK)
	d.Crash(nil)
	reads(t, d, 1, full('c'))
}

func TestP4_2TheFirstAndTheLastSector(t *testing.T) {
	for _, n := range []int{1, 2, api.MaxSectors} {
		d := made(t, n)
		writes(t, d, 0, full('f'), api.OK)
		reads(t, d, 0, full('f'))
		writes(t, d, n-1, full('l'), api.OK)
		reads(t, d, n-1, full('l'))
		if n > 1 {
			reads(t, d, 0, full('f'))
		}
		for _, at := range []int{-1, n, n + 1, -n, math.MinInt, math.MaxInt} {
			refusesToRead(t, d, at, api.ErrPlace)
			writes(t, d, at, full('x'), api.ErrPlace)
		}
		counts(t, d, 2, 2)
	}
}

func TestP4_2WriteRefusesAnotherLength(t *testing.T) {
	d := made(t, 2)
	d.Write(0, full('a'))
	for _, n := range []int{0, 1, api.Sector - 1, api.Sector + 1, 2 * api.Sector, 1 << 20} {
		writes(t, d, 0, strings.Repeat("x", n), api.ErrLong)
	}
	reads(t, d, 0, full('a'))
	counts(t, d, 1, 1)
}

func TestP4_2WhichErrorIsTold(t *testing.T) {
	d := made(t, 2)
	for _, gone := range []bool{false, true} {
		if gone {
			d.Arm(0)
		}
		for _, refused := range []int{0, 1} {
			d.Refuse(refused)
			for _, at := range []int{-1, 2, math.MaxInt, math.MinInt} {
				refusesToRead(t, d, at, api.ErrPlace)
				for _, s := range []string{"", full('a'), full('a') + "a"} {
					writes(t, d, at, s, api.ErrPlace)
				}
			}
			for _, s := range []string{"", "a", full('a')[1:], full('a') + "a"} {
				writes(t, d, 0, s, api.ErrLong)
				writes(t, d, 1, s, api.ErrLong)
			}
		}
	}
	// All of it went on with a write to be refused, and without power.
	writes(t, d, 0, full('a'), api.ErrDown)
	writes(t, d, 1, full('a'), api.ErrDown)
	flushes(t, d, api.ErrDown)
	refusesToRead(t, d, 0, api.ErrDown)
	counts(t, d, 0, 0)
	d.Arm(-1)
	writes(t, d, 0, full('a'), api.ErrBroken)
	counts(t, d, 0, 0)
}

func TestP4_2FlushWithNothingHeldBack(t *testing.T) {
	d := made(t, 1)
	for n := range 3 {
		counts(t, d, 0, n)
		flushes(t, d, api.OK)
	}
	reads(t, d, 0, zeros)
	counts(t, d, 0, 3)
	d.Arm(1)
	flushes(t, d, api.OK)
	isDown(t, d, true)
}

func TestP4_2HeldAndOps(t *testing.T) {
	d := made(t, 2)
	for n := range 5 {
		counts(t, d, n, n)
		writes(t, d, n%2, full('a'), api.OK)
	}
	// The same bytes once more are one write more; reads are no operation.
	writes(t, d, 0, full('a'), api.OK)
	reads(t, d, 0, full('a'))
	refusesToRead(t, d, 9, api.ErrPlace)
	counts(t, d, 6, 6)
	d.Refuse(1)
	writes(t, d, 0, full('b'), api.ErrBroken)
	counts(t, d, 6, 6)
	d.Arm(0)
	writes(t, d, 0, full('b'), api.ErrDown)
	flushes(t, d, api.ErrDown)
	counts(t, d, 6, 6)
	d.Arm(-1)
	flushes(t, d, api.OK)
	counts(t, d, 0, 7)
	d.Crash(nil)
	counts(t, d, 0, 7)
}

func TestP4_2AnswersAreNewMemory(t *testing.T) {
	d := made(t, 2)
	s := unlike(1)
	d.Write(0, s)
	d.Write(1, s)
	first, _ := d.Read(0)
	second, _ := d.Read(0)
	third, _ := d.Read(1)
	all := []string{s, first, second, third}
	d.Flush()
	fourth, _ := d.Read(0)
	all = append(all, fourth)
	d.Write(0, s)
	d.Crash([]int{1})
	fifth, _ := d.Read(0)
	all = append(all, fifth)
	for i := range all {
		for j := range i {
			if unsafe.StringData(all[i]) == unsafe.StringData(all[j]) {
				t.Errorf("texts %d and %d share their bytes", j, i)
			}
		}
	}
}

func TestP4_2WhatIsHandedInIsNotKept(t *testing.T) {
	d := made(t, 1)
	room := []byte(unlike(1))
	d.Write(0, unsafe.String(&room[0], len(room)))
	clear(room)
	reads(t, d, 0, unlike(1))
	flushes(t, d, api.OK)
	d.Crash(nil)
	reads(t, d, 0, unlike(1))
}

func TestP4_3ArmEndsThePower(t *testing.T) {
	for _, n := range []int{1, 2, 3, 10, 500} {
		for _, flush := range []bool{false, true} {
			d := made(t, 2)
			flushes(t, d, api.OK)
			d.Arm(n)
			for range n {
				isDown(t, d, false)
				reads(t, d, 1, zeros)
				if flush {
					flushes(t, d, api.OK)
				} else {
					writes(t, d, 0, full('a'), api.OK)
				}
			}
			isDown(t, d, true)
			for range 3 {
				writes(t, d, 0, full('b'), api.ErrDown)
				flushes(t, d, api.ErrDown)
				refusesToRead(t, d, 0, api.ErrDown)
				isDown(t, d, true)
			}
			if d.Ops() != n+1 {
				t.Errorf("Arm(%d): Ops %d", n, d.Ops())
			}
		}
	}
}

func TestP4_3TheLastOperationIsDone(t *testing.T) {
	d := made(t, 2)
	d.Write(0, full('a'))
	d.Arm(1)
	flushes(t, d, api.OK)
	d.Crash(nil)
	reads(t, d, 0, full('a'))
	d.Arm(1)
	writes(t, d, 1, full('b'), api.OK)
	counts(t, d, 1, 3)
	d.Crash([]int{1})
	reads(t, d, 1, full('b'))
}

func TestP4_3ArmAtOnceAndNever(t *testing.T) {
	d := made(t, 1)
	d.Arm(0)
	isDown(t, d, true)
	writes(t, d, 0, full('a'), api.ErrDown)
	flushes(t, d, api.ErrDown)
	refusesToRead(t, d, 0, api.ErrDown)
	d.Arm(0)
	isDown(t, d, true)
	for _, n := range []int{-1, -2, -100, math.MinInt, math.MinInt32, math.MaxInt, math.MaxInt32} {
		d := made(t, 1)
		d.Arm(n)
		for range 300 {
			isDown(t, d, false)
			writes(t, d, 0, full('a'), api.OK)
			flushes(t, d, api.OK)
		}
		isDown(t, d, false)
	}
}

func TestP4_3NeverArmed(t *testing.T) {
	d := made(t, 1)
	for range 5000 {
		writes(t, d, 0, full('a'), api.OK)
	}
	flushes(t, d, api.OK)
	isDown(t, d, false)
}

func TestP4_3OnlyWhatIsOKCountsForArm(t *testing.T) {
	d := made(t, 2)
	d.Arm(2)
	d.Refuse(1)
	reads(t, d, 0, zeros)
	refusesToRead(t, d, 2, api.ErrPlace)
	writes(t, d, 2, full('a'), api.ErrPlace)
	writes(t, d, -1, "", api.ErrPlace)
	writes(t, d, 0, "", api.ErrLong)
	writes(t, d, 0, full('a'), api.ErrBroken)
	isDown(t, d, false)
	writes(t, d, 0, full('b'), api.OK)
	isDown(t, d, false)
	flushes(t, d, api.OK)
	isDown(t, d, true)
	counts(t, d, 0, 2)
}

func TestP4_3TheLastArmCounts(t *testing.T) {
	for _, x := range []struct {
		name             string
		first, done, nxt int
		more             int // operations that are OK behind the second Arm; 9: all
	}{
		{"ahead of the end, fewer", 5, 1, 1, 1},
		{"ahead of the end, more", 2, 1, 4, 4},
		{"ahead of the end, as many", 3, 1, 3, 3},
		{"ahead of the end, at once", 3, 1, 0, 0},
		{"ahead of the end, never", 3, 1, -1, 9},
		{"behind the end, 1", 2, 2, 1, 1},
		{"behind the end, more", 1, 1, 4, 4},
		{"behind the end, at once", 1, 1, 0, 0},
		{"behind the end, never", 1, 1, -1, 9},
		{"behind an end at once, 2", 0, 0, 2, 2},
		{"behind an end at once, never", 0, 0, -7, 9},
		{"behind never, 2", -1, 3, 2, 2},
		{"behind never, at once", -1, 3, 0, 0},
	} {
		d := made(t, 1)
		d.Arm(x.first)
		for range x.done {
			writes(t, d, 0, full('a'), api.OK)
		}
		d.Arm(x.nxt)
		more := 0
		for more < 9 && d.Write(0, full('b')) == api.OK {
			more++
		}
		if more != x.more || d.Down() != (x.more < 9) {
			t.Errorf("%s: %d operations more, Down %v; want %d", x.name, more, d.Down(), x.more)
		}
	}
}

func TestP4_3ThePowerBackLosesNothing(t *testing.T) {
	d := made(t, 2)
	d.Write(0, full('a'))
	d.Flush()
	d.Arm(1)
	d.Write(0, full('b'))
	counts(t, d, 1, 3)
	d.Write(0, full('c'))
	d.Flush()
	d.Arm(3)
	counts(t, d, 1, 3)
	reads(t, d, 0, full('b'))
	d.Crash(nil)
	reads(t, d, 0, full('a'))
}

func TestP4_3RefuseTheNth(t *testing.T) {
	for _, n := range []int{1, 2, 3, 10} {
		d := made(t, 2)
		d.Write(0, full('o'))
		d.Flush()
		d.Refuse(n)
		for range n - 1 {
			writes(t, d, 0, full('a'), api.OK)
			// Neither counts as a write.
			flushes(t, d, api.OK)
			reads(t, d, 1, zeros)
		}
		held, ops := d.Held(), d.Ops()
		before, _ := d.Read(0)
		writes(t, d, 0, full('x'), api.ErrBroken)
		counts(t, d, held, ops)
		reads(t, d, 0, before)
		isDown(t, d, false)
		for range 3 * n {
			writes(t, d, 0, full('b'), api.OK)
		}
		reads(t, d, 0, full('b'))
	}
}

func TestP4_3RefuseNone(t *testing.T) {
	for _, n := range []int{0, -1, -2, math.MinInt, math.MinInt32, math.MaxInt, math.MaxInt32} {
		d := made(t, 1)
		d.Refuse(n)
		for range 300 {
			writes(t, d, 0, full('a'), api.OK)
		}
	}
}

func TestP4_3OnlyWritesThatCouldBeAreCounted(t *testing.T) {
	d := made(t, 2)
	d.Refuse(2)
	writes(t, d, 2, full('a'), api.ErrPlace)
	writes(t, d, -1, full('a'), api.ErrPlace)
	writes(t, d, 0, "", api.ErrLong)
	writes(t, d, 0, full('a')+"a", api.ErrLong)
	flushes(t, d, api.OK)
	reads(t, d, 0, zeros)
	d.Arm(0)
	for range 4 {
		writes(t, d, 0, full('a'), api.ErrDown)
	}
	d.Arm(-1)
	writes(t, d, 0, full('a'), api.OK)
	writes(t, d, 0, full('b'), api.ErrBroken)
	writes(t, d, 0, full('c'), api.OK)
	counts(t, d, 2, 3)
}

func TestP4_3TheLastRefuseCounts(t *testing.T) {
	for _, x := range []struct {
		name             string
		first, done, nxt int
		more             int // writes that are OK ahead of one that is refused; 9: all
	}{
		{"sooner", 5, 1, 1, 0},
		{"later", 2, 1, 4, 3},
		{"as before", 3, 1, 3, 2},
		{"none", 2, 1, 0, 9},
		{"none, below 0", 2, 1, -3, 9},
		{"at the first one, then none", 1, 0, 0, 9},
		{"none, then one", 0, 3, 2, 1},
		{"none, below 0, then one", -5, 3, 1, 0},
	} {
		d := made(t, 1)
		d.Refuse(x.first)
		for range x.done {
			writes(t, d, 0, full('a'), api.OK)
		}
		d.Refuse(x.nxt)
		more := 0
		for more < 9 && d.Write(0, full('b')) == api.OK {
			more++
		}
		if more != x.more {
			t.Errorf("%s: %d writes were OK; want %d", x.name, more, x.more)
		}
	}
}

func TestP4_3RefuseAgain(t *testing.T) {
	d := made(t, 1)
	for range 4 {
		d.Refuse(1)
		writes(t, d, 0, full('a'), api.ErrBroken)
		writes(t, d, 0, full('a'), api.OK)
	}
	counts(t, d, 4, 4)
	// Told while the power is gone, it counts once it is back.
	d.Arm(0)
	d.Refuse(2)
	writes(t, d, 0, full('b'), api.ErrDown)
	d.Arm(-1)
	writes(t, d, 0, full('b'), api.OK)
	writes(t, d, 0, full('c'), api.ErrBroken)
}

func TestP4_3ArmAndRefuseTogether(t *testing.T) {
	d := made(t, 1)
	d.Arm(2)
	d.Refuse(2)
	writes(t, d, 0, full('a'), api.OK)
	writes(t, d, 0, full('b'), api.ErrBroken)
	isDown(t, d, false)
	writes(t, d, 0, full('c'), api.OK)
	isDown(t, d, true)
	writes(t, d, 0, full('d'), api.ErrDown)
	counts(t, d, 2, 2)

	// The power ends ahead of the write that is to be refused.
	d = made(t, 1)
	d.Refuse(3)
	d.Arm(2)
	writes(t, d, 0, full('a'), api.OK)
	writes(t, d, 0, full('b'), api.OK)
	writes(t, d, 0, full('c'), api.ErrDown)
	d.Arm(1)
	writes(t, d, 0, full('d'), api.ErrBroken)
	isDown(t, d, false)
	writes(t, d, 0, full('e'), api.OK)
	isDown(t, d, true)
	counts(t, d, 3, 3)

	// Refuse leaves the power as it is, and Arm what is to be refused.
	d = made(t, 1)
	d.Arm(0)
	d.Refuse(0)
	d.Refuse(-1)
	d.Refuse(5)
	isDown(t, d, true)
	d.Arm(1)
	d.Refuse(0)
	writes(t, d, 0, full('a'), api.OK)
	isDown(t, d, true)
}

func TestP4_4HowMuchOfAWriteIsKept(t *testing.T) {
	old, fresh := unlike(3), unlike(100)
	for _, x := range []struct{ keep, bytes int }{
		{0, 0}, {1, 512}, {2, 0}, {3, 1}, {4, 2}, {10, 8}, {258, 256}, {511, 509}, {512, 510}, {513, 511},
		{514, 0}, {515, 0}, {1024, 0}, {-1, 0}, {-2, 0}, {-512, 0}, {math.MinInt, 0}, {math.MinInt + 1, 0}, {math.MaxInt, 0},
		{math.MaxInt32, 0}, {math.MinInt32, 0},
	} {
		d := made(t, 3)
		d.Write(1, old)
		d.Flush()
		d.Write(1, fresh)
		d.Crash([]int{x.keep})
		reads(t, d, 0, zeros)
		reads(t, d, 2, zeros)
		if s, err := d.Read(1); s != fresh[:x.bytes]+old[x.bytes:] || err != api.OK {
			t.Errorf("keep %d: error %d, want the first %d bytes of it: %x", x.keep, err, x.bytes, s)
		}
	}
}

func TestP4_4EveryNumberOfKeep(t *testing.T) {
	old, fresh := full('o'), full('f')
	for n := -5; n < 1100; n++ {
		want := 0
		if n == 1 {
			want = 512
		} else if n > 1 && n < 514 {
			want = n - 2
		}
		d := made(t, 1)
		d.Write(0, old)
		d.Flush()
		d.Write(0, fresh)
		d.Crash([]int{n})
		s, _ := d.Read(0)
		if got := strings.Count(s, "f"); got != want || s != fresh[:want]+old[want:] {
			t.Errorf("keep %d: %d bytes of it; want %d", n, got, want)
		}
	}
}

func TestP4_4KeepOfAnyLength(t *testing.T) {
	for _, x := range []struct {
		name string
		keep []int
		want string // the first byte of each sector; 'o': as it was
	}{
		{"nil", nil, "oooo"},
		{"empty", []int{}, "oooo"},
		{"the first alone", []int{1}, "aooo"},
		{"the second alone", []int{0, 1}, "oboo"},
		{"shorter", []int{1, 0, 1}, "aoco"},
		{"as many", []int{1, 1, 1, 1}, "abcd"},
		{"as many, and the last lost", []int{1, 1, 1, 0}, "abco"},
		{"longer", []int{0, 0, 0, 1, 1, 1, 7}, "oood"},
		{"far longer", append([]int{1, 0, 0, 1}, slices.Repeat([]int{1}, 1000)...), "aood"},
	} {
		d := made(t, 4)
		for at := range 4 {
			d.Write(at, full('o'))
		}
		d.Flush()
		for at, c := range []byte("abcd") {
			d.Write(at, full(c))
		}
		d.Crash(x.keep)
		for at := range 4 {
			if s, _ := d.Read(at); s != full(x.want[at]) {
				t.Errorf("%s: sector %d: %.8q..; want %c", x.name, at, s, x.want[at])
			}
		}
		counts(t, d, 0, 9)
	}
}

func TestP4_4WritesAreKeptInTheirOrder(t *testing.T) {
	for _, x := range []struct {
		name string
		keep []int
		want string
	}{
		{"all: the last one", []int{1, 1, 1}, full('c')},
		{"the first one alone", []int{1}, full('a')},
		{"the last one lost", []int{1, 1, 0}, full('b')},
		{"the one between lost", []int{1, 0, 1}, full('c')},
		{"torn upon torn", []int{102, 52, 12}, strings.Repeat("c", 10) + strings.Repeat("b", 40) + strings.Repeat("a", 50) + strings.Repeat("o", 412)},
		{"torn, then more of another", []int{12, 52, 0}, strings.Repeat("b", 50) + strings.Repeat("o", 462)},
		{"torn upon whole", []int{1, 513, 3}, "c" + strings.Repeat("b", 510) + "a"},
		{"whole upon torn", []int{513, 1, 514}, full('b')},
	} {
		d := made(t, 2)
		d.Write(1, full('o'))
		d.Flush()
		for _, c := range []byte("abc") {
			d.Write(1, full(c))
		}
		counts(t, d, 3, 5)
		d.Crash(x.keep)
		if s, _ := d.Read(1); s != x.want {
			t.Errorf("%s: %q", x.name, s)
		}
		reads(t, d, 0, zeros)
	}
}

func TestP4_4TheKthCountsWritesOfAllSectors(t *testing.T) {
	d := made(t, 3)
	d.Write(2, full('a'))
	d.Write(0, full('b'))
	d.Refuse(1)
	d.Write(0, full('x')) // refused, so not among those that are held back
	d.Write(3, full('x'))
	d.Write(0, "x")
	d.Write(2, full('c'))
	d.Write(1, full('d'))
	d.Crash([]int{0, 1, 3, 0})
	reads(t, d, 0, full('b'))
	reads(t, d, 1, zeros)
	reads(t, d, 2, "c"+zeros[1:])
}

func TestP4_4BehindACrash(t *testing.T) {
	for _, armed := range []int{-1, 0, 1, 2, 3} {
		for _, refused := range []int{0, 1, 2, 5} {
			d := made(t, 2)
			d.Write(0, full('a'))
			d.Write(1, full('b'))
			d.Arm(armed)
			d.Refuse(refused)
			d.Write(0, full('c'))
			d.Crash([]int{1, 1})
			held, ops := d.Held(), d.Ops()
			if held != 0 || d.Down() {
				t.Errorf("Arm(%d), Refuse(%d): Held %d, Down %v", armed, refused, held, d.Down())
			}
			for range 10 {
				writes(t, d, 0, full('d'), api.OK)
				isDown(t, d, false)
			}
			flushes(t, d, api.OK)
			counts(t, d, 0, ops+11)
			reads(t, d, 0, full('d'))
			reads(t, d, 1, full('b'))
		}
	}
}

func TestP4_4ArmAndRefuseBehindACrash(t *testing.T) {
	d := made(t, 1)
	d.Arm(1)
	d.Refuse(1)
	d.Crash(nil)
	d.Arm(2)
	d.Refuse(2)
	writes(t, d, 0, full('a'), api.OK)
	writes(t, d, 0, full('b'), api.ErrBroken)
	writes(t, d, 0, full('c'), api.OK)
	isDown(t, d, true)
	d.Crash([]int{1, 0})
	reads(t, d, 0, full('a'))
}

func TestP4_4WithoutPowerWhatIsHeldBackWaits(t *testing.T) {
	d := made(t, 2)
	d.Write(0, full('a'))
	d.Arm(1)
	d.Write(1, full('b'))
	d.Write(1, full('x'))
	d.Flush()
	counts(t, d, 2, 2)
	d.Crash([]int{0, 1})
	isDown(t, d, false)
	reads(t, d, 0, zeros)
	reads(t, d, 1, full('b'))
	counts(t, d, 0, 2)
}

func TestP4_4WhatACrashKeptStays(t *testing.T) {
	d := made(t, 2)
	d.Write(0, full('a'))
	d.Write(1, full('b'))
	d.Crash([]int{1, 12})
	for range 3 {
		reads(t, d, 0, full('a'))
		reads(t, d, 1, strings.Repeat("b", 10)+zeros[10:])
		counts(t, d, 0, 2)
		d.Crash(nil)
		d.Crash([]int{1, 1, 12})
	}
	d.Write(0, full('c'))
	d.Crash(nil)
	reads(t, d, 0, full('a'))
}

func TestP4_4KeepIsNotChanged(t *testing.T) {
	d := made(t, 1)
	for range 3 {
		d.Write(0, full('a'))
	}
	room := []int{5, 1, 600, 7, 8}
	was := slices.Clone(room)
	d.Crash(room[:2])
	if !slices.Equal(room, was) {
		t.Error(room, was)
	}
}

func TestP4_5WhatWasFlushedIsThere(t *testing.T) {
	keeps := [][]int{nil, {0}, {1}, {2}, {300}, {513}, {514}, {-1}, {1, 1, 1}, {0, 1, 77}}
	for _, keep := range keeps {
		d := made(t, 4)
		d.Write(0, unlike(1))
		d.Write(1, unlike(2))
		d.Write(3, unlike(3))
		d.Write(3, unlike(4))
		d.Flush()
		// Written anew since: sector 1 alone.
		d.Write(1, unlike(5))
		d.Refuse(1)
		d.Write(0, unlike(6))
		d.Crash(keep)
		reads(t, d, 0, unlike(1))
		reads(t, d, 2, zeros)
		reads(t, d, 3, unlike(4))
		d.Crash(keep)
		reads(t, d, 0, unlike(1))
		reads(t, d, 3, unlike(4))
	}
}

func TestP4_5Example(t *testing.T) {
	d := made(t, 1)
	d.Write(0, full('a'))
	d.Crash(nil)
	reads(t, d, 0, zeros)
	d.Write(0, full('a'))
	d.Flush()
	d.Crash(nil)
	reads(t, d, 0, full('a'))
}

// slow tells what the document says in another way: it keeps all that happened
// and goes through it anew for each question.
type slow struct {
	sectors int
	events  []event
}

type event struct {
	kind      int
	at, n     int
	s         string
	keep      []int
	err       api.Errno
	seenWrite bool // a write that tells none of ErrPlace, ErrLong, ErrDown
}

const (
	aWrite = iota
	aFlush
	aRefuse
	anArm
	aCrash
)

func (m *slow) ops() int { return m.opsSince(0) }

func (m *slow) opsSince(from int) (n int) {
	for _, e := range m.events[from:] {
		if (e.kind == aWrite || e.kind == aFlush) && e.err == api.OK {
			n++
		}
	}
	return n
}

// last: where the last event stands that counts as one of this kind, or is a
// crash; -1, if there is none.
func (m *slow) last(kind int) int {
	for i := len(m.events) - 1; i >= 0; i-- {
		if m.events[i].kind == kind || m.events[i].kind == aCrash {
			return i
		}
	}
	return -1
}

func (m *slow) down() bool {
	i := m.last(anArm)
	if i < 0 || m.events[i].kind == aCrash || m.events[i].n < 0 {
		return false
	}
	return m.opsSince(i) >= m.events[i].n
}

func (m *slow) refused() bool {
	i := m.last(aRefuse)
	if i < 0 || m.events[i].kind == aCrash {
		return false
	}
	n := 1
	for _, e := range m.events[i:] {
		if e.seenWrite {
			n++
		}
	}
	return n == m.events[i].n
}

func (m *slow) write(at int, s string) api.Errno {
	e := event{kind: aWrite, at: at, s: s}
	switch {
	case at < 0 || at >= m.sectors:
		e.err = api.ErrPlace
	case len(s) != api.Sector:
		e.err = api.ErrLong
	case m.down():
		e.err = api.ErrDown
	default:
		e.seenWrite = true
		if m.refused() {
			e.err = api.ErrBroken
		}
	}
	m.events = append(m.events, e)
	return e.err
}

func (m *slow) flush() api.Errno {
	e := event{kind: aFlush}
	if m.down() {
		e.err = api.ErrDown
	}
	m.events = append(m.events, e)
	return e.err
}

// disk: all bytes as they are read, and how many writes are held back.
func (m *slow) disk() (all []byte, held int) {
	safe := make([]byte, m.sectors*api.Sector)
	var waiting []event
	for _, e := range m.events {
		switch {
		case e.kind == aWrite && e.err == api.OK:
			waiting = append(waiting, e)
		case e.kind == aFlush && e.err == api.OK:
			for _, w := range waiting {
				copy(safe[w.at*api.Sector:], w.s)
			}
			waiting = nil
		case e.kind == aCrash:
			for k, w := range waiting {
				copy(safe[w.at*api.Sector:], w.s[:bytesOf(e.keep, k)])
			}
			waiting = nil
		}
	}
	for _, w := range waiting {
		copy(safe[w.at*api.Sector:], w.s)
	}
	return safe, len(waiting)
}

func bytesOf(keep []int, k int) int {
	if k >= len(keep) || keep[k] < 1 || keep[k] > 513 {
		return 0
	}
	if keep[k] == 1 {
		return 512
	}
	return keep[k] - 2
}

func randomKeep(r *rand.Rand) []int {
	keep := make([]int, r.Intn(8))
	for i := range keep {
		keep[i] = []int{0, 1, 1, 2, 3, 512, 513, 514, -1, 2 + r.Intn(512), r.Intn(1000) - 200}[r.Intn(11)]
	}
	return keep
}

// stays: behind a crash each sector that was not among the writes held back is
// as it was read ahead of it.
func stays(t *testing.T, d *Dev, m *slow, keep []int) {
	t.Helper()
	before, _ := m.disk()
	anew := map[int]int{}
	for i := len(m.events) - 1; i >= 0; i-- {
		e := m.events[i]
		if e.err == api.OK && (e.kind == aFlush || e.kind == aCrash) {
			break
		}
		if e.err == api.OK && e.kind == aWrite {
			anew[e.at]++
		}
	}
	d.Crash(keep)
	m.events = append(m.events, event{kind: aCrash, keep: keep})
	for at := range m.sectors {
		if anew[at] == 0 {
			reads(t, d, at, string(before[at*api.Sector:(at+1)*api.Sector]))
		}
	}
}

func agree(t *testing.T, d *Dev, m *slow) {
	t.Helper()
	all, held := m.disk()
	counts(t, d, held, m.ops())
	isDown(t, d, m.down())
	for at := range m.sectors {
		if m.down() {
			refusesToRead(t, d, at, api.ErrDown)
		} else {
			reads(t, d, at, string(all[at*api.Sector:(at+1)*api.Sector]))
		}
	}
}

func TestP4_2ToP4_5HeldAgainstASlowDevice(t *testing.T) {
	r := rand.New(rand.NewSource(4))
	for range 300 {
		n := 1 + r.Intn(4)
		d, m := made(t, n), &slow{sectors: n}
		for range 60 {
			switch r.Intn(12) {
			case 0:
				stays(t, d, m, randomKeep(r))
			case 1:
				n := r.Intn(6) - 1
				d.Arm(n)
				m.events = append(m.events, event{kind: anArm, n: n})
			case 2:
				n := r.Intn(6) - 1
				d.Refuse(n)
				m.events = append(m.events, event{kind: aRefuse, n: n})
			case 3, 4:
				flushes(t, d, m.flush())
			default:
				at, s := r.Intn(n), unlike(r.Intn(256))
				if r.Intn(12) == 0 {
					at = r.Intn(3*n) - n
				}
				if r.Intn(12) == 0 {
					s = s[r.Intn(3):] + s[:r.Intn(3)]
				}
				writes(t, d, at, s, m.write(at, s))
			}
			agree(t, d, m)
		}
		if t.Failed() {
			return
		}
	}
}
