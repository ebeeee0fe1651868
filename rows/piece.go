package rows

import (
	"math"
	"slices"
	"strings"

	"hedgerow/api"
	"hedgerow/num"
)

// most: how many bytes of its text a piece has. The last one of a row has fewer, be
// it none.
const most = 360

// piece is a part of a row's text, and what tells that it is this row's.
type piece struct {
	id int64
	// at: which of the row's pieces it is, from 0 on.
	at int
	// size: how many bytes all of the text has.
	size int
	// sum: what sum makes of the row. By it a piece that was changed, or is of another
	// text, is not taken for one of this.
	sum  uint32
	part string
}

// count is how many pieces a text of so many bytes takes.
func count(size int) int { return size/most + 1 }

// bytes is the row of the heap that a piece is.
func (p piece) bytes() string {
	return num.Put(uint64(p.id)) + num.Put(uint64(p.at)) + num.Put(uint64(p.size)) + num.Put(uint64(p.sum)) + p.part
}

// parse is the piece that a row of the heap is; false, if it is none. Whether its
// part is one of such a text is told by join.
func parse(s string) (piece, bool) {
	limits := [4]uint64{api.MaxId, api.MaxRow, api.MaxRow, math.MaxUint32}
	var head [len(limits)]uint64
	at := 0
	for i, limit := range limits {
		n, size, ok := num.Get(s, at)
		if !ok || n > limit {
			return piece{}, false
		}
		head[i] = n
		at += size
	}
	if head[0] == 0 {
		return piece{}, false
	}
	return piece{id: int64(head[0]), at: int(head[1]), size: int(head[2]), sum: uint32(head[3]), part: s[at:]}, true
}

// split is a row's pieces, in their order.
func split(id int64, text string) []piece {
	n := sum(id, text)
	var l []piece
	for at := range count(len(text)) {
		from := at * most
		part := text[from:min(from+most, len(text))]
		l = append(l, piece{id: id, at: at, size: len(text), sum: n, part: part})
	}
	return l
}

// join is the text of a row; false, unless these are all of its pieces, in their
// order.
func join(id int64, l []piece) (string, bool) {
	var text strings.Builder
	for _, p := range l {
		text.WriteString(p.part)
	}
	if !slices.Equal(l, split(id, text.String())) {
		return "", false
	}
	return text.String(), true
}

// sum is a row's number and its text in 32 bits (FNV-1a): no change of one byte
// leaves it as it was, and hardly any other one.
func sum(id int64, text string) uint32 {
	n := uint32(2166136261)
	s := num.Put(uint64(id)) + text
	for i := range len(s) {
		n = (n ^ uint32(s[i])) * 16777619
	}
	return n
}
