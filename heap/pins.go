package heap

import (
	"hedgerow/api"
	"hedgerow/page"
)

// look is a page's bytes, which stays pinned no longer than that takes.
func (h *Heap) look(at int) (string, api.Errno) {
	s, err := h.p.Pin(at)
	if err != api.OK {
		return "", err
	}
	h.p.Unpin(at)
	return s, api.OK
}

// alter changes the page of a place as turn does.
func (h *Heap) alter(place int, turn func(s string, slot int) (string, api.Errno)) api.Errno {
	if h == nil {
		return api.ErrArg
	}
	at, slot, ok := split(place)
	if !ok {
		return api.ErrNone
	}
	bits, err := h.p.Pin(mapAt)
	if err != api.OK {
		return err
	}
	defer h.p.Unpin(mapAt)
	return noneThere(h.change(bits, at, func(s string) (string, api.Errno) {
		return turn(s, slot)
	}))
}

// insertAt puts a row into a page, and tells its slot.
func (h *Heap) insertAt(bits string, at int, row string) (int, api.Errno) {
	slot := 0
	err := h.change(bits, at, func(s string) (string, api.Errno) {
		now, n, err := page.Insert(s, row)
		slot = n
		return now, err
	})
	return slot, err
}

// change has a page as turn makes it, and its bit as its rows ask for. bits is the
// map, which is pinned: Set of a pinned page can't fail, so it is both that change
// or neither.
func (h *Heap) change(bits string, at int, turn func(s string) (string, api.Errno)) api.Errno {
	s, err := h.p.Pin(at)
	if err != api.OK {
		return err
	}
	defer h.p.Unpin(at)
	s, err = turn(s)
	if err != api.OK {
		return err
	}
	h.p.Set(at, s)
	if rows := len(page.Slots(s)) > 0; rows != marked(bits, at) {
		h.p.Set(mapAt, mark(bits, at, rows))
	}
	return api.OK
}

// noneThere: where the device has no such page, there is no such row.
func noneThere(err api.Errno) api.Errno {
	if err == api.ErrPlace {
		return api.ErrNone
	}
	return err
}
