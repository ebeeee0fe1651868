package rows

import (
	"hedgerow/api"
	"hedgerow/heap"
)

// row is what was found of a row: its pieces in their order, and their places. Where
// one lacks the place is 0, which no piece has.
type row struct {
	places []int
	pieces []piece
}

// find is the rows that have pieces in a heap. Whether a piece lacks is not asked
// here.
func find(h *heap.Heap) (map[int64]row, api.Errno) {
	places, err := h.Places()
	if err != api.OK {
		return nil, err
	}
	found := map[int64]row{}
	for _, place := range places {
		p, err := read(h, place)
		if err != api.OK {
			return nil, err
		}
		x, there := found[p.id]
		if !there {
			n := count(p.size)
			x = row{places: make([]int, n), pieces: make([]piece, n)}
			found[p.id] = x
		}
		more := len(found) > api.MaxRows
		if more || p.at >= len(x.places) || x.places[p.at] != 0 {
			return nil, api.ErrForm
		}
		x.places[p.at], x.pieces[p.at] = place, p
	}
	return found, api.OK
}

// read is the piece that stands at a place.
func read(h *heap.Heap, place int) (piece, api.Errno) {
	s, err := h.Get(place)
	if err != api.OK {
		return piece{}, err
	}
	p, ok := parse(s)
	if !ok {
		return piece{}, api.ErrForm
	}
	return p, api.OK
}

// insert puts pieces into the heap, up to the first one that it does not take. It
// tells where they stand.
func (r *Rows) insert(l []piece) (placed []int, err api.Errno) {
pieces:
	for _, p := range l {
		place, told := r.h.Insert(p.bytes())
		switch told {
		case api.OK:
			placed = append(placed, place)
		default:
			err = told
			break pieces
		}
	}
	return placed, err
}

// takeBack takes away what was put in by a call that is told err.
func (r *Rows) takeBack(placed []int, err api.Errno) api.Errno {
	r.waste = placed
	swept := r.sweep()
	if err == api.ErrFull && swept != api.OK {
		return swept // ErrFull would say that all is as it was
	}
	return err
}

// retire takes the first piece of a row away, and has the others go. Till that one is
// gone the row is whole, so an error here leaves it as it was.
func (r *Rows) retire(places []int) api.Errno {
	if err := r.h.Delete(places[0]); err != api.OK {
		return err
	}
	r.waste = places[1:]
	return api.OK
}

// sweep takes the waste away, up to the first piece that the heap leaves.
func (r *Rows) sweep() api.Errno {
	for len(r.waste) > 0 {
		if err := r.h.Delete(r.waste[0]); err != api.OK {
			return err
		}
		r.waste = r.waste[1:]
	}
	return api.OK
}
