package rows

import (
	"fmt"
	"maps"
	"math"
	"math/rand"
	"slices"
	"strings"
	"testing"
	"unsafe"

	"hedgerow/api"
	"hedgerow/dev"
	"hedgerow/heap"
	"hedgerow/pool"
)

func fresh(t *testing.T, sectors, frames int) (*dev.Dev, *pool.Pool, *Rows) {
	t.Helper()
	d, err := dev.New(sectors)
	if err != api.OK {
		t.Fatal("no device:", err)
	}
	p := pooled(t, d, frames)
	return d, p, anew(t, p)
}

func pooled(t *testing.T, d *dev.Dev, frames int) *pool.Pool {
	t.Helper()
	p, err := pool.New(d, frames)
	if err != api.OK {
		t.Fatal("no pool:", err)
	}
	return p
}

func heaped(t *testing.T, p *pool.Pool) *heap.Heap {
	t.Helper()
	h, err := heap.New(p)
	if err != api.OK {
		t.Fatal("no heap:", err)
	}
	return h
}

// anew is the rows as they are read from a pool's pages.
func anew(t *testing.T, p *pool.Pool) *Rows {
	t.Helper()
	r, err := New(heaped(t, p))
	if err != api.OK || r == nil {
		t.Fatal("New:", err)
	}
	return r
}

// text: n bytes, of which no two pieces are alike.
func text(n int) string {
	var b strings.Builder
	for i := 0; b.Len() < n; i++ {
		fmt.Fprint(&b, i, ".")
	}
	return b.String()[:n]
}

// like: n bytes of one kind.
func like(c byte, n int) string { return strings.Repeat(string([]byte{c}), n) }

// short: a text that can be read.
func short(s string) string {
	if len(s) < 9 {
		return fmt.Sprintf("%q", s)
	}
	return fmt.Sprintf("%.6q by %d", s, len(s))
}

func puts(t *testing.T, r *Rows, id int64, text string, want api.Errno) {
	t.Helper()
	if err := r.Put(id, text); err != want {
		t.Errorf("Put(%d, %s): error %d; want %d", id, short(text), err, want)
	}
}

func deletes(t *testing.T, r *Rows, id int64, want api.Errno) {
	t.Helper()
	if err := r.Delete(id); err != want {
		t.Errorf("Delete(%d): error %d; want %d", id, err, want)
	}
}

func gets(t *testing.T, r *Rows, id int64, want string, wantErr api.Errno) {
	t.Helper()
	if text, err := r.Get(id); text != want || err != wantErr {
		t.Errorf("Get(%d): %s, error %d; want %s, error %d", id, short(text), err, short(want), wantErr)
	}
}

func refusesHeap(t *testing.T, name string, h *heap.Heap, want api.Errno) {
	t.Helper()
	if r, err := New(h); r != nil || err != want {
		t.Errorf("%s: New: rows %v, error %d; want error %d", name, r != nil, err, want)
	}
}

// has holds all that rows tell against what they must be: by the chapter's words
// alone, which say of a text's pieces only how many they are.
func has(t *testing.T, why string, r *Rows, want map[int64]string) {
	t.Helper()
	if l := r.Ids(); !slices.Equal(l, slices.Sorted(maps.Keys(want))) {
		t.Errorf("%s: Ids %v; want those of %d rows", why, l, len(want))
	}
	for id, s := range want {
		if got, err := r.Get(id); got != s || err != api.OK {
			t.Errorf("%s: Get(%d): %s, error %d; want %s", why, id, short(got), err, short(s))
		}
		if n := r.Pieces(id); n != len(s)/360+1 {
			t.Errorf("%s: Pieces(%d): %d, of %d bytes", why, id, n, len(s))
		}
		for _, other := range []int64{id - 1, id + 1, -id} {
			if _, there := want[other]; !there && (r.Pieces(other) != 0 || r.hasOne(other)) {
				t.Errorf("%s: row %d is there", why, other)
			}
		}
	}
}

func (r *Rows) hasOne(id int64) bool {
	s, err := r.Get(id)
	return s != "" || err != api.ErrNone
}

// hasBoth: these rows, and those that are read anew from the same heap. All of the
// heap's rows are their pieces.
func hasBoth(t *testing.T, why string, p *pool.Pool, r *Rows, want map[int64]string) {
	t.Helper()
	has(t, why, r, want)
	has(t, why+", read anew", anew(t, p), want)
	all := 0
	for _, s := range want {
		all += len(s)/360 + 1
	}
	if n := len(inHeap(t, p)); n != all {
		t.Errorf("%s: the heap has %d rows; want %d", why, n, all)
	}
	nothingPinned(t, p)
}

// inHeap is a heap's rows by their places.
func inHeap(t *testing.T, p *pool.Pool) map[int]string {
	t.Helper()
	h := heaped(t, p)
	l, err := h.Places()
	if err != api.OK {
		t.Fatal("Places:", err)
	}
	all := map[int]string{}
	for _, place := range l {
		all[place], err = h.Get(place)
		if err != api.OK {
			t.Fatalf("the heap's Get(%d): error %d", place, err)
		}
	}
	return all
}

func places(t *testing.T, p *pool.Pool) []int {
	t.Helper()
	return slices.Sorted(maps.Keys(inHeap(t, p)))
}

func nothingPinned(t *testing.T, p *pool.Pool) {
	t.Helper()
	for _, at := range p.Held() {
		if p.Unpin(at) != api.ErrNone {
			t.Fatalf("page %d is pinned still", at)
		}
	}
}

// pinned pins pages, as others than the heap do.
func pinned(t *testing.T, p *pool.Pool, l ...int) {
	t.Helper()
	for _, at := range l {
		if _, err := p.Pin(at); err != api.OK {
			t.Fatalf("Pin(%d): error %d", at, err)
		}
	}
}

func unpinned(t *testing.T, p *pool.Pool, l ...int) {
	t.Helper()
	for _, at := range l {
		p.Unpin(at)
	}
	nothingPinned(t, p)
}

// lengths: those at which a text takes a piece more, those beside them, and others.
func lengths() []int {
	l := []int{0, 1, 2, 100, 400, 1000, 3999, 4000}
	for n := 360; n <= api.MaxRow; n += 360 {
		l = append(l, n-1, n, n+1)
	}
	slices.Sort(l)
	return l
}

// idsAsked: numbers of rows, and such that are none.
func idsAsked() (good, bad []int64) {
	good = []int64{1, 2, 3, 63, 64, 127, 128, 129, 1<<14 - 1, 1 << 14, 1<<31 - 1, 1 << 31, 1 << 32, 1<<56 - 1, 1 << 56, api.MaxId - 1, api.MaxId}
	bad = []int64{0, -1, -2, -128, math.MinInt32, -api.MaxId, -api.MaxId - 1, math.MinInt64, math.MinInt64 + 1, api.MaxId + 1, api.MaxId + 2, math.MaxInt64 - 1, math.MaxInt64}
	return good, bad
}

func TestP9_1New(t *testing.T) {
	refusesHeap(t, "no heap", nil, api.ErrArg)
	for _, sectors := range []int{1, 2, 3, api.MaxSectors} {
		for _, frames := range []int{1, 2, 3, api.MaxFrames} {
			_, p, r := fresh(t, sectors, frames)
			hasBoth(t, "without rows", p, r, nil)
			gets(t, r, 1, "", api.ErrNone)
			deletes(t, r, 1, api.ErrNone)
			if r.Pieces(1) != 0 || len(p.Dirty()) != 0 {
				t.Error("pieces, or dirty pages, of nothing:", r.Pieces(1), p.Dirty())
			}
		}
	}
}

func TestP9_1Nil(t *testing.T) {
	var r *Rows
	good, bad := idsAsked()
	for _, id := range append(good, bad...) {
		for _, n := range []int{0, 1, 4000, 4001} {
			puts(t, r, id, like('x', n), api.ErrArg)
		}
		deletes(t, r, id, api.ErrArg)
		gets(t, r, id, "", api.ErrArg)
		if n := r.Pieces(id); n != 0 {
			t.Error("pieces of nil:", n)
		}
	}
	if l := r.Ids(); len(l) != 0 {
		t.Error("Ids of nil:", l)
	}
}

// some: rows of 1, 2, 3 and 12 pieces, of which the last ones have 0 to 359 bytes.
func some() map[int64]string {
	return map[int64]string{1: text(719), 2: "", 3: text(720), 7: text(4000), 300: like(0, 359), 1 << 40: like(255, 360), api.MaxId: "oak"}
}

// filled is a pool of a device with rows.
func filled(t *testing.T, sectors int, rows map[int64]string) *pool.Pool {
	t.Helper()
	_, p, r := fresh(t, sectors, api.MaxFrames)
	for _, id := range slices.Sorted(maps.Keys(rows)) {
		puts(t, r, id, rows[id], api.OK)
	}
	return p
}

func TestP9_1TheRowsThatStandThere(t *testing.T) {
	hasBoth(t, "some", filled(t, 40, some()), anew(t, filled(t, 40, some())), some())
}

// Where its pieces stand is all one, and in which order.
func TestP9_1PiecesThatStandElsewhere(t *testing.T) {
	from := inHeap(t, filled(t, 40, some()))
	for seed := range 10 {
		l := slices.Sorted(maps.Values(from))
		rand.New(rand.NewSource(int64(seed))).Shuffle(len(l), func(i, k int) { l[i], l[k] = l[k], l[i] })
		_, p, _ := fresh(t, 60, 3)
		h := heaped(t, p)
		for _, s := range l {
			if _, err := h.Insert(s); err != api.OK {
				t.Fatal("the heap's Insert:", err)
			}
		}
		r := anew(t, p)
		hasBoth(t, "pieces put in by others", p, r, some())
		puts(t, r, 7, text(800), api.OK)
		want := some()
		want[7] = text(800)
		hasBoth(t, "and one put", p, r, want)
	}
}

// Rows of two heaps in one.
func TestP9_1PiecesOfTwoHeaps(t *testing.T) {
	p := filled(t, 60, some())
	h := heaped(t, p)
	for _, s := range inHeap(t, filled(t, 40, map[int64]string{4: text(1000), 5: "", 6: text(720)})) {
		h.Insert(s)
	}
	want := some()
	want[4], want[5], want[6] = text(1000), "", text(720)
	hasBoth(t, "of two heaps", p, anew(t, p), want)
}

func TestP9_1APieceThatIsNone(t *testing.T) {
	bad := []string{"", "\x00", "\x01", "\xff", "\xff\xff", "oak", "\x00\x00\x00\x00", "\x01\x00\x00\x00", like(0, 400), like(1, 400), like(255, 400), like(128, 400), text(400), text(30)}
	for _, rows := range []map[int64]string{nil, some()} {
		for _, s := range bad {
			// Behind all others, and ahead of them.
			p := filled(t, 40, rows)
			heaped(t, p).Insert(s)
			refusesHeap(t, short(s)+" behind", heaped(t, p), api.ErrForm)
			_, p, _ = fresh(t, 40, api.MaxFrames)
			heaped(t, p).Insert(s)
			for _, piece := range inHeap(t, filled(t, 40, rows)) {
				heaped(t, p).Insert(piece)
			}
			refusesHeap(t, short(s)+" ahead", heaped(t, p), api.ErrForm)
			nothingPinned(t, p)
			// Without it all is well.
			heaped(t, p).Delete(128)
			has(t, "without "+short(s), anew(t, p), rows)
		}
	}
}

func TestP9_1APieceThatLacks(t *testing.T) {
	p := filled(t, 40, some())
	h := heaped(t, p)
	for place, s := range inHeap(t, p) {
		h.Delete(place)
		whose, ok := parse(s)
		if !ok {
			t.Fatalf("at %d stands no piece", place)
		}
		rest := some()
		if count(len(rest[whose.id])) > 1 {
			refusesHeap(t, fmt.Sprintf("piece %d of row %d lacks", whose.at, whose.id), h, api.ErrForm)
		} else {
			delete(rest, whose.id)
			hasBoth(t, "a row is gone with its only piece", p, anew(t, p), rest)
		}
		// Anywhere.
		h.Insert(s)
		hasBoth(t, "it is there again", p, anew(t, p), some())
	}
}

func TestP9_1TheFirstOrTheLastPiecesLack(t *testing.T) {
	for n := range 13 {
		for _, first := range []bool{true, false} {
			p := filled(t, 40, map[int64]string{5: text(4000)})
			h := heaped(t, p)
			for place, s := range inHeap(t, p) {
				if whose, _ := parse(s); first == (whose.at < n) {
					h.Delete(place)
				}
			}
			if left := len(inHeap(t, p)); left > 0 && left < 12 {
				refusesHeap(t, fmt.Sprintf("%d of 12 pieces", left), h, api.ErrForm)
			} else if r := anew(t, p); len(r.Ids()) != left/12 {
				t.Errorf("%d pieces: Ids %v", left, r.Ids())
			}
		}
	}
}

func TestP9_1APieceThatIsSaidTwice(t *testing.T) {
	p := filled(t, 60, some())
	h := heaped(t, p)
	for place, s := range inHeap(t, p) {
		again, err := h.Insert(s)
		if err != api.OK {
			t.Fatal("the heap's Insert:", err)
		}
		refusesHeap(t, fmt.Sprintf("the piece at %d is said twice", place), h, api.ErrForm)
		// It is all one which of both stays.
		h.Delete(place)
		hasBoth(t, "the second one stays", p, anew(t, p), some())
		h.Delete(again)
		h.Insert(s)
	}
	for _, s := range inHeap(t, filled(t, 40, map[int64]string{7: text(4000)})) {
		h.Insert(s)
	}
	refusesHeap(t, "all of a row twice", h, api.ErrForm)
}

// One piece is said twice, another one of the row lacks.
func TestP9_1OnePieceInsteadOfAnother(t *testing.T) {
	for _, s := range []string{text(1000), like('x', 1000), like('x', 1080), like('x', 720)} {
		p := filled(t, 40, map[int64]string{5: s})
		h := heaped(t, p)
		all := inHeap(t, p)
		for place, was := range all {
			for _, other := range all {
				if other == was || h.Put(place, other) == api.ErrFull {
					continue
				}
				refusesHeap(t, "a piece instead of another", h, api.ErrForm)
			}
			h.Put(place, was)
		}
		hasBoth(t, "as it was", p, anew(t, p), map[int64]string{5: s})
	}
}

// changed: each text that comes of a piece by one small change.
func changed(s string) []string {
	l := []string{s + "\x00", s + "x", "\x00" + s, "\x01" + s, "\x80" + s}
	for i := range len(s) {
		for _, flip := range []byte{1, 2, 64, 128, 255} {
			b := []byte(s)
			b[i] ^= flip
			l = append(l, string(b))
		}
		l = append(l, s[:i], s[i+1:], s[:i]+s[i+1:], s[:i]+"\x00"+s[i+1:], s[:i]+"y"+s[i:])
		for _, k := range []int{i + 1, i + 2, i + 10} {
			if k < len(s) {
				b := []byte(s)
				b[i], b[k] = b[k], b[i]
				l = append(l, string(b))
				b[i], b[k] = s[i]+1, s[k]-1
				l = append(l, string(b))
			}
		}
	}
	return slices.DeleteFunc(l, func(c string) bool { return c == s || len(c) > 400 })
}

func TestP9_1APieceThatWasChanged(t *testing.T) {
	for _, rows := range []map[int64]string{{1: ""}, {1: "oak"}, {5: text(359)}, {api.MaxId: text(20)}, {300: text(730)}, {1: text(360), 2: text(361), 3: "", 4: "a"}} {
		p := filled(t, 40, rows)
		h := heaped(t, p)
		for place, was := range inHeap(t, p) {
			for _, s := range changed(was) {
				if err := h.Put(place, s); err != api.OK {
					t.Fatal("the heap's Put:", err)
				}
				refusesHeap(t, fmt.Sprintf("%x instead of %x", s, was), h, api.ErrForm)
			}
			h.Put(place, was)
		}
		hasBoth(t, "as it was", p, anew(t, p), rows)
	}
}

// A piece is of a text that the row had, or another row has.
func TestP9_1APieceOfAnotherText(t *testing.T) {
	for _, x := range []struct {
		id          int64
		text, other string
	}{{5, text(1000), like('x', 1000)}, {5, text(1000), text(999)}, {5, text(1000), text(1001)}, {5, text(1000), text(1080)}, {5, text(1000), text(700)}, {5, text(700), text(1000)},
		{5, text(720), text(721)}, {5, text(4000), text(3999)}, {5, text(1000), text(400) + "x" + text(1000)[401:]}} {
		p := filled(t, 40, map[int64]string{5: x.text})
		h := heaped(t, p)
		others := inHeap(t, filled(t, 40, map[int64]string{x.id: x.other}))
		for place, was := range inHeap(t, p) {
			for _, s := range others {
				if h.Put(place, s) == api.ErrFull {
					continue
				}
				refusesHeap(t, fmt.Sprintf("a piece of %s in %s", short(x.other), short(x.text)), h, api.ErrForm)
			}
			h.Put(place, was)
		}
		hasBoth(t, "as it was", p, anew(t, p), map[int64]string{5: x.text})
		for _, s := range others {
			h.Insert(s)
		}
		refusesHeap(t, "two texts of a row", h, api.ErrForm)
	}
}

// Pieces that say of themselves what can't be, though their sums are right.
func TestP9_1NumbersOfPieces(t *testing.T) {
	for _, p := range []piece{
		{id: 0, size: 3, part: "oak"}, {id: api.MaxId + 1, size: 3, part: "oak"}, {id: math.MinInt64, size: 3, part: "oak"}, {id: -1, size: 3, part: "oak"},
		{id: 1, size: 4, part: "oak"}, {id: 1, size: 2, part: "oak"}, {id: 1, size: 0, part: "oak"}, {id: 1, size: 3, part: ""},
		{id: 1, at: 1, size: 3, part: "oak"}, {id: 1, at: 1, size: 3, part: ""}, {id: 1, at: math.MaxInt, size: 3, part: "oak"}, {id: 1, at: -1, size: 3, part: "oak"}, {id: 1, at: 1 << 40, size: 3, part: "oak"},
		{id: 1, size: 363, part: "oak"}, {id: 1, at: 1, size: 363, part: "oak"}, {id: 1, size: 4001, part: like('x', 360)}, {id: 1, size: math.MaxInt, part: "oak"}, {id: 1, size: -1, part: "oak"},
		{id: 1, size: 370, part: like('x', 370)}, {id: 1, size: 361, part: like('x', 361)}, {id: 1, size: 360, part: like('x', 360)},
	} {
		p.sum = sum(p.id, p.part)
		_, pages, _ := fresh(t, 4, 3)
		h := heaped(t, pages)
		if _, err := h.Insert(p.bytes()); err != api.OK {
			t.Fatal("the heap's Insert:", err)
		}
		refusesHeap(t, fmt.Sprintf("id %d, at %d, size %d, %s", p.id, p.at, p.size, short(p.part)), h, api.ErrForm)
	}
	// A text that is longer than any, in as many pieces as it takes.
	for _, n := range []int{4000, 4001, 4319, 4320, 5000} {
		_, pages, _ := fresh(t, 40, 3)
		h := heaped(t, pages)
		for _, p := range split(9, like('x', n)) {
			h.Insert(p.bytes())
		}
		if n > 4000 {
			refusesHeap(t, fmt.Sprint("a text of ", n), h, api.ErrForm)
		} else {
			gets(t, anew(t, pages), 9, like('x', n), api.OK)
		}
	}
}

func TestP9_1MoreRowsThanThereMayBe(t *testing.T) {
	p, r := manyRows(t)
	h := heaped(t, p)
	place, err := h.Insert(split(api.MaxRows+1, "")[0].bytes())
	if err != api.OK {
		t.Fatal("the heap's Insert:", err)
	}
	refusesHeap(t, "a row more than MaxRows", h, api.ErrForm)
	h.Delete(place)
	if l := anew(t, p).Ids(); len(l) != api.MaxRows || !slices.Equal(l, r.Ids()) {
		t.Error(len(l))
	}
}

func TestP9_1AnErrorOfTheHeapIsTold(t *testing.T) {
	d, p, r := fresh(t, 20, 2)
	for id, s := range map[int64]string{1: text(300), 2: text(1000), 3: "oak"} {
		puts(t, r, id, s, api.OK)
	}
	p.Flush()
	// A page that is none.
	was, _ := d.Read(2)
	d.Write(2, like('g', 512))
	refusesHeap(t, "a page that is none", heaped(t, pooled(t, d, 2)), api.ErrForm)
	d.Write(2, was)
	// All frames are pinned by others.
	for _, frames := range []int{1, 2, 3} {
		p = pooled(t, d, frames)
		r = anew(t, p)
		others := []int{19, 18, 17}[:frames]
		pinned(t, p, others...)
		refusesHeap(t, "all frames pinned", heaped(t, p), api.ErrPinned)
		gets(t, r, 2, "", api.ErrPinned)
		gets(t, r, 3, "", api.ErrPinned)
		gets(t, r, 4, "", api.ErrNone)
		puts(t, r, 2, "", api.ErrPinned)
		puts(t, r, 4, "", api.ErrPinned)
		deletes(t, r, 2, api.ErrPinned)
		deletes(t, r, 4, api.ErrNone)
		unpinned(t, p, others...)
		hasBoth(t, "unpinned", p, r, map[int64]string{1: text(300), 2: text(1000), 3: "oak"})
	}
	// No power: what frames hold can be read still.
	p = pooled(t, d, 8)
	r = anew(t, p)
	h := heaped(t, pooled(t, d, 2))
	d.Arm(0)
	refusesHeap(t, "no power", h, api.ErrDown)
	has(t, "all held", r, map[int64]string{1: text(300), 2: text(1000), 3: "oak"})
	for p.Evict(0) == api.OK {
	}
	gets(t, r, 2, "", api.ErrDown)
	gets(t, r, 4, "", api.ErrNone)
	puts(t, r, 2, "", api.ErrDown)
	deletes(t, r, 2, api.ErrDown)
	deletes(t, r, 4, api.ErrNone)
	if l := r.Ids(); !slices.Equal(l, []int64{1, 2, 3}) || r.Pieces(2) != 3 {
		t.Error("without power:", l, r.Pieces(2))
	}
	d.Arm(-1)
	hasBoth(t, "the power is back", p, r, map[int64]string{1: text(300), 2: text(1000), 3: "oak"})
}

// The device refuses to write a page that is dirty, which is to be given up: by New
// itself, when the heap's Places went well already.
func TestP9_1NewIsToldAnErrorBehindPlaces(t *testing.T) {
	behind := 0
	for frames := 1; frames <= 9; frames++ {
		for at := 1; at <= 7; at++ {
			one, two := refusing(t, frames, at), refusing(t, frames, at)
			_, early := heaped(t, one).Places()
			r, err := New(heaped(t, two))
			switch {
			case early != api.OK && err != early, err != api.OK && err != api.ErrBroken, (r == nil) != (err != api.OK):
				t.Errorf("%d frames, page %d: New: rows %v, error %d", frames, at, r != nil, err)
			case early == api.OK && err != api.OK:
				behind++
				hasBoth(t, "not refused any more", two, anew(t, two), map[int64]string{1: broad(7)})
			}
		}
	}
	if behind == 0 {
		t.Error("no error behind Places")
	}
}

// refusing is a pool of 7 pages with a row, one of them dirty, which can't be written.
func refusing(t *testing.T, frames, dirty int) *pool.Pool {
	t.Helper()
	d, p, r := fresh(t, 9, api.MaxFrames)
	puts(t, r, 1, broad(7), api.OK)
	p.Flush()
	p = pooled(t, d, frames)
	s, _ := p.Pin(dirty)
	p.Set(dirty, s)
	p.Unpin(dirty)
	d.Refuse(1)
	return p
}

// Nobody else is to change the heap. Where somebody does no row is told what is not
// its own.
func TestP9_2GetOfAHeapThatOthersChanged(t *testing.T) {
	for place := 128; place <= 384; place += 128 {
		_, p, r := fresh(t, 20, 3)
		puts(t, r, 1, broad(3), api.OK)
		h := heaped(t, p)
		was, _ := h.Get(place)
		for _, s := range []string{"", "none", split(1, like('x', 280))[0].bytes(), split(2, broad(3))[place/128-1].bytes()} {
			h.Put(place, s)
			gets(t, r, 1, "", api.ErrForm)
		}
		h.Delete(place)
		gets(t, r, 1, "", api.ErrNone)
		h.Insert(was)
		gets(t, r, 1, broad(3), api.OK)
	}
}

func TestP9_2Ids(t *testing.T) {
	good, bad := idsAsked()
	_, p, r := fresh(t, 40, 4)
	want := map[int64]string{}
	for i, id := range good {
		want[id] = text(i * 47)
		puts(t, r, id, want[id], api.OK)
	}
	for _, id := range bad {
		for _, n := range []int{0, 1, 4000, 4001, 1 << 20} {
			puts(t, r, id, like('x', n), api.ErrArg)
		}
		deletes(t, r, id, api.ErrNone)
		gets(t, r, id, "", api.ErrNone)
		if r.Pieces(id) != 0 {
			t.Errorf("Pieces(%d): %d", id, r.Pieces(id))
		}
	}
	hasBoth(t, "all numbers", p, r, want)
	for _, id := range good {
		deletes(t, r, id, api.OK)
		deletes(t, r, id, api.ErrNone)
		gets(t, r, id, "", api.ErrNone)
		delete(want, id)
		hasBoth(t, fmt.Sprint("without ", id), p, r, want)
	}
}

func TestP9_2Lengths(t *testing.T) {
	for _, frames := range []int{2, 3, 64} {
		_, p, r := fresh(t, 300, frames)
		want := map[int64]string{}
		for i, n := range lengths() {
			want[int64(i+1)] = text(n)
			puts(t, r, int64(i+1), text(n), api.OK)
		}
		for _, n := range []int{4001, 4002, 4320, 8000, 1 << 20} {
			puts(t, r, 1, like('x', n), api.ErrLong)
			puts(t, r, 999, like('x', n), api.ErrLong)
		}
		hasBoth(t, "all lengths", p, r, want)
	}
}

func TestP9_2PiecesOfTexts(t *testing.T) {
	_, _, r := fresh(t, 40, 4)
	for n, want := range map[int]int{0: 1, 1: 1, 359: 1, 360: 2, 719: 2, 720: 3, 1000: 3, 3599: 10, 3600: 11, 3959: 11, 3960: 12, 3999: 12, 4000: 12} {
		puts(t, r, 6, text(n), api.OK)
		if got := r.Pieces(6); got != want {
			t.Errorf("%d bytes: %d pieces; want %d", n, got, want)
		}
	}
	deletes(t, r, 6, api.OK)
	if r.Pieces(6) != 0 {
		t.Error("pieces of a row that is gone:", r.Pieces(6))
	}
}

func TestP9_2AnyBytes(t *testing.T) {
	all := make([]byte, 256)
	for i := range all {
		all[i] = byte(i)
	}
	l := []string{string(all), like(0, 1), like(0, 359), like(0, 360), like(0, 4000), like(255, 720), like(128, 3999), "\x00", "\xff\xff", "ä€\U0001F333", "\n\r\t\"\\"}
	// Such as look like pieces, or like pages.
	for _, id := range []int64{1, 5, api.MaxId} {
		for _, p := range split(id, text(800)) {
			l = append(l, p.bytes(), p.bytes()+p.bytes(), like(' ', 360)+p.bytes(), like(' ', 350)+p.bytes())
		}
	}
	_, p, r := fresh(t, 100, 3)
	want := map[int64]string{}
	for i, s := range l {
		puts(t, r, int64(i+1), s, api.OK)
		want[int64(i+1)] = s
	}
	hasBoth(t, "any bytes", p, r, want)
}

// A row is put anew, from each length to each, beside others.
func TestP9_2PutAnew(t *testing.T) {
	_, p, r := fresh(t, 60, 3)
	puts(t, r, 1, text(500), api.OK)
	puts(t, r, 9, text(721), api.OK)
	for _, from := range []int{0, 1, 359, 360, 719, 720, 3999, 4000} {
		for _, to := range []int{0, 1, 359, 360, 719, 720, 3999, 4000} {
			for _, fill := range []func(int) string{text, func(n int) string { return like('n', n) }} {
				puts(t, r, 5, text(from), api.OK)
				puts(t, r, 5, fill(to), api.OK)
				hasBoth(t, fmt.Sprintf("from %d to %d", from, to), p, r, map[int64]string{1: text(500), 5: fill(to), 9: text(721)})
			}
		}
	}
}

func TestP9_2DeletedAndPutAgain(t *testing.T) {
	_, p, r := fresh(t, 60, 2)
	want := map[int64]string{}
	put := func(id int64, s string) {
		puts(t, r, id, s, api.OK)
		want[id] = s
	}
	for id := int64(1); id <= 5; id++ {
		put(id, text(int(id)*200))
	}
	for _, id := range []int64{3, 1, 5} {
		deletes(t, r, id, api.OK)
		delete(want, id)
		gets(t, r, id, "", api.ErrNone)
		hasBoth(t, "deleted", p, r, want)
		deletes(t, r, id, api.ErrNone)
		put(id, text(900-int(id)))
		hasBoth(t, "and put again", p, r, want)
	}
	for _, id := range []int64{2, 5, 1, 4, 3} {
		deletes(t, r, id, api.OK)
	}
	hasBoth(t, "all deleted", p, r, nil)
	if l, err := heaped(t, p).Pages(); len(l) != 0 || err != api.OK {
		t.Error("pages that are not free:", l, err)
	}
}

func TestP9_2IdsRise(t *testing.T) {
	good, _ := idsAsked()
	for seed := range 20 {
		l := slices.Clone(good)
		rand.New(rand.NewSource(int64(seed))).Shuffle(len(l), func(i, k int) { l[i], l[k] = l[k], l[i] })
		_, p, r := fresh(t, 40, 3)
		for i, id := range l {
			puts(t, r, id, "x", api.OK)
			want := slices.Sorted(slices.Values(l[:i+1]))
			if got := r.Ids(); !slices.Equal(got, want) {
				t.Fatalf("Ids: %v; want %v", got, want)
			}
		}
		deletes(t, r, l[0], api.OK)
		puts(t, r, l[1], "y", api.OK)
		for _, x := range []*Rows{r, anew(t, p)} {
			if got := x.Ids(); !slices.Equal(got, slices.Sorted(slices.Values(l[1:]))) {
				t.Errorf("Ids: %v", got)
			}
		}
	}
}

// manyRows: MaxRows of them, of a few bytes each.
func manyRows(t *testing.T) (*pool.Pool, *Rows) {
	t.Helper()
	_, p, r := fresh(t, 300, api.MaxFrames)
	for id := int64(1); id <= api.MaxRows; id++ {
		if err := r.Put(id, fmt.Sprint(id)); err != api.OK {
			t.Fatalf("Put(%d): error %d", id, err)
		}
	}
	return p, r
}

func TestP9_2MaxRows(t *testing.T) {
	p, r := manyRows(t)
	more := int64(api.MaxRows + 1)
	refused := func() {
		t.Helper()
		was := places(t, p)
		puts(t, r, more, "", api.ErrMany)
		puts(t, r, api.MaxId, text(4000), api.ErrMany)
		puts(t, r, more, like('x', 4001), api.ErrLong)
		puts(t, r, 0, "", api.ErrArg)
		puts(t, r, api.MaxId+1, "", api.ErrArg)
		gets(t, r, more, "", api.ErrNone)
		if len(r.Ids()) != api.MaxRows || !slices.Equal(places(t, p), was) {
			t.Error("a row more:", len(r.Ids()))
		}
	}
	refused()
	puts(t, r, 2000, text(400), api.OK)
	gets(t, r, 2000, text(400), api.OK)
	refused()
	r = anew(t, p)
	refused()
	puts(t, r, 1, "put anew", api.OK)
	refused()
	deletes(t, r, 77, api.OK)
	puts(t, r, more, "one more", api.OK)
	puts(t, r, 77, "", api.ErrMany)
	gets(t, r, more, "one more", api.OK)
	deletes(t, r, more, api.OK)
	puts(t, r, more, like('x', 4001), api.ErrLong)
	puts(t, r, 77, "again", api.OK)
	refused()
	for id := int64(1); id <= api.MaxRows; id++ {
		deletes(t, r, id, api.OK)
	}
	hasBoth(t, "all deleted", p, r, nil)
}

// broad: a text whose pieces, 11 at most, each need a page of their own.
func broad(pieces int) string { return text(360*(pieces-1) + 280) }

// Just the room for the new pieces beside the old ones, and less by a piece.
func TestP9_2Full(t *testing.T) {
	for _, frames := range []int{2, 3, 64} {
		for old := range 4 {
			for pieces := 1; pieces <= 11; pieces++ {
				for lacking := range pieces + 1 {
					full(t, frames, old, pieces, lacking)
				}
			}
		}
	}
}

func full(t *testing.T, frames, old, pieces, lacking int) {
	t.Helper()
	// Page 0, the old row's pages, another row's, and those that are free.
	_, p, r := fresh(t, 1+old+2+pieces-lacking, frames)
	want := map[int64]string{7: broad(2)}
	puts(t, r, 7, broad(2), api.OK)
	if old > 0 {
		want[5] = broad(old)
		puts(t, r, 5, broad(old), api.OK)
	}
	was, why := inHeap(t, p), fmt.Sprintf("%d frames, %d new pieces beside %d, room for %d", frames, pieces, old, pieces-lacking)
	if lacking > 0 {
		puts(t, r, 5, broad(pieces), api.ErrFull)
		if !maps.Equal(inHeap(t, p), was) {
			t.Error(why + ": the heap is changed")
		}
		hasBoth(t, why, p, r, want)
		// There is room for less, and once the row is gone.
		puts(t, r, 5, "", api.OK)
		puts(t, r, 7, "", api.OK)
		deletes(t, r, 5, api.OK)
		deletes(t, r, 7, api.OK)
	}
	puts(t, r, 5, broad(max(1, pieces-lacking)), api.OK)
	delete(want, 7)
	want[5] = broad(max(1, pieces-lacking))
	if lacking == 0 {
		want[7] = broad(2)
	}
	hasBoth(t, why+", there is room", p, r, want)
}

// The same text put anew needs its room, too.
func TestP9_2FullOfTheSameText(t *testing.T) {
	for _, more := range []int{0, 1, 2, 3} {
		_, p, r := fresh(t, 1+3+more, 3)
		puts(t, r, 5, broad(3), api.OK)
		was := inHeap(t, p)
		if more < 3 {
			puts(t, r, 5, broad(3), api.ErrFull)
			if !maps.Equal(inHeap(t, p), was) {
				t.Error("the heap is changed")
			}
		} else {
			puts(t, r, 5, broad(3), api.OK)
		}
		hasBoth(t, "the same text", p, r, map[int64]string{5: broad(3)})
	}
}

func TestP9_2ADeviceWithoutPages(t *testing.T) {
	for _, frames := range []int{1, 2} {
		_, p, r := fresh(t, 1, frames)
		puts(t, r, 1, "", api.ErrFull)
		puts(t, r, 1, text(4000), api.ErrFull)
		puts(t, r, 1, text(4001), api.ErrLong)
		puts(t, r, 0, "", api.ErrArg)
		hasBoth(t, "no pages", p, r, nil)
	}
}

func TestP9_2WithOneFrame(t *testing.T) {
	d, p, r := fresh(t, 40, 3)
	want := some()
	for id, s := range want {
		puts(t, r, id, s, api.OK)
	}
	p.Flush()
	p = pooled(t, d, 1)
	r = anew(t, p)
	for _, id := range []int64{1, 2, 7, 4, api.MaxId} {
		puts(t, r, id, "x", api.ErrPinned)
		puts(t, r, id, text(4001), api.ErrLong)
		if _, there := want[id]; there {
			deletes(t, r, id, api.ErrPinned)
		} else {
			deletes(t, r, id, api.ErrNone)
		}
	}
	puts(t, r, 0, "x", api.ErrArg)
	hasBoth(t, "one frame", p, r, want)
	if len(p.Dirty()) != 0 {
		t.Error("dirty:", p.Dirty())
	}
}

func TestP9_2TextsAreNotKeptAndAnswersAreNewMemory(t *testing.T) {
	for _, n := range []int{3, 359, 1000} {
		_, _, r := fresh(t, 20, 3)
		b := []byte(text(n))
		puts(t, r, 5, unsafe.String(&b[0], n), api.OK)
		for i := range b {
			b[i] = 'x'
		}
		gets(t, r, 5, text(n), api.OK)
		one, _ := r.Get(5)
		two, _ := r.Get(5)
		if unsafe.StringData(one) == unsafe.StringData(two) {
			t.Error("two answers share memory")
		}
	}
	_, p, r := fresh(t, 20, 3)
	for id := int64(1); id <= 5; id++ {
		puts(t, r, id, "", api.OK)
	}
	for range 2 {
		l := r.Ids()
		l = l[:cap(l)]
		for i := range l {
			l[i] = 7
		}
		hasBoth(t, "Ids were changed", p, r, map[int64]string{1: "", 2: "", 3: "", 4: "", 5: ""})
	}
}

func TestP9_3ReadAnewBehindAFlushAndACrash(t *testing.T) {
	for _, frames := range []int{2, 3, 64} {
		d, p, r := fresh(t, 60, frames)
		want := map[int64]string{}
		for round := range 30 {
			for i := range 4 {
				id := int64((round*5+i*3)%11 + 1)
				if (round+i)%4 == 3 {
					r.Delete(id)
					delete(want, id)
				} else {
					want[id] = text((round*361 + i*719) % 1500)
					puts(t, r, id, want[id], api.OK)
				}
			}
			if err := p.Flush(); err != api.OK {
				t.Fatal("Flush:", err)
			}
			d.Crash(nil)
			has(t, "behind a crash", r, want)
			p = pooled(t, d, frames)
			r = anew(t, p)
			hasBoth(t, "behind a crash, by other frames", p, r, want)
		}
	}
}

func TestP9_2Example(t *testing.T) {
	_, _, r := fresh(t, 10, 2)
	puts(t, r, 1, text(1000), api.OK)
	if n := r.Pieces(1); n != 3 {
		t.Error(n)
	}
}
