package heap

import "hedgerow/api"

const (
	// mapAt: the page that has a bit for each page, and no rows.
	mapAt = 0
	first = mapAt + 1
	// last: of the pages above it the map has no bit, so no row goes there, however
	// many the device has.
	last = 8*api.Sector - 1
	// each: how many places a page has.
	each = 128
	// lastSlot: a page has no room for the slot of its last place.
	lastSlot = each - 2
)

func join(at, slot int) int { return at*each + slot }

// split is the page and the slot of a place; false, if no row can be there.
func split(place int) (at, slot int, ok bool) {
	if place < first*each || place >= (last+1)*each || place%each > lastSlot {
		return 0, 0, false
	}
	return place / each, place % each, true
}

// marked tells whether the map says of a page that it has rows.
func marked(bits string, at int) bool { return bits[at/8]&bitOf(at) != 0 }

// mark is the map, which says now whether a page has rows.
func mark(bits string, at int, rows bool) string {
	b := []byte(bits)
	b[at/8] &^= bitOf(at)
	if rows {
		b[at/8] |= bitOf(at)
	}
	return string(b)
}

// bitOf is a page's bit in its byte: the lowest comes first.
func bitOf(at int) byte { return 1 << (at % 8) }
