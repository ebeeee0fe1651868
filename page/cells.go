package page

import (
	"strings"

	"hedgerow/api"
	"hedgerow/num"
)

const (
	// longest: how many bytes a row may have.
	longest = 400
	// fixed, each: what the chapter counts for a page, and for each of its slots.
	// Written it takes less, one byte, and at most two for each slot: so what has
	// room as the chapter counts fits into a page.
	fixed = 4
	each  = 4
	// most: how many slots have room.
	most = (api.Sector - fixed) / each
)

// cell is what a slot has: a row, or nothing.
type cell struct {
	taken bool
	row   string
}

// write makes a page: how many slots are there, then of each slot a head, which
// is 0 if it is free and else its row's length + 1, and its row; zeros behind.
func write(l []cell) string {
	l = trim(l)
	var out strings.Builder
	out.Grow(api.Sector)
	out.WriteString(num.Put(uint64(len(l))))
rows:
	for _, c := range l {
		if !c.taken {
			out.WriteString(num.Put(0))
			continue rows
		}
		out.WriteString(num.Put(uint64(len(c.row)) + 1))
		out.WriteString(c.row)
	}
	out.WriteString(zeros(api.Sector - out.Len()))
	return out.String()
}

// read is what the slots of a page have. Nothing is a page but what write writes,
// since the same rows must be the same bytes.
func read(p string) ([]cell, bool) {
	n, at, ok := num.Get(p, 0)
	if len(p) != api.Sector || !ok || n > most {
		return nil, false
	}
	l := make([]cell, 0, n)
rows:
	for range n {
		head, size, ok := num.Get(p, at)
		at += size
		switch {
		case !ok || head > longest+1 || at+int(head)-1 > len(p):
			break rows
		case head == 0:
			l = append(l, cell{})
			continue rows
		}
		end := at + int(head) - 1
		l = append(l, cell{taken: true, row: p[at:end]})
		at = end
	}
	whole := uint64(len(l)) == n && len(trim(l)) == len(l)
	if !whole || room(l) < 0 || p[at:] != zeros(len(p)-at) {
		return nil, false
	}
	return l, true
}

func zeros(n int) string { return strings.Repeat("\x00", n) }

// trim leaves out what is free behind the last row.
func trim(l []cell) []cell {
	for len(l) > 0 && !l[len(l)-1].taken {
		l = l[:len(l)-1]
	}
	return l
}

// room is how many bytes more the rows may have; below 0, if they have too many.
func room(l []cell) int {
	left := api.Sector - fixed - each*len(l)
	for _, c := range l {
		left -= len(c.row)
	}
	return left
}

// withFree is l with its lowest free slot there, and which one that is.
func withFree(l []cell) ([]cell, int) {
	for i, c := range l {
		if !c.taken {
			return l, i
		}
	}
	return append(l, cell{}), len(l)
}
