package pool

import (
	"slices"

	"hedgerow/api"
)

// frame is room for one page. When it was used last is told by where it stands
// in its pool's list.
type frame struct {
	at    int
	s     string
	pins  int
	dirty bool
}

// find is the frame that holds a page; nil, if none does.
func (p *Pool) find(at int) *frame {
	for _, f := range p.held {
		if f.at == at {
			return f
		}
	}
	return nil
}

// findPinned is the frame that holds a page, which must be pinned.
func (p *Pool) findPinned(at int) (*frame, api.Errno) {
	if p == nil {
		return nil, api.ErrArg
	}
	f := p.find(at)
	if f == nil || f.pins == 0 {
		return nil, api.ErrNone
	}
	return f, api.OK
}

// load reads a page into a frame that held nothing. The frame is not held yet.
func (p *Pool) load(at int) (*frame, api.Errno) {
	f, err := p.take()
	if err != api.OK {
		return nil, err
	}
	s, err := p.d.Read(at)
	if err != api.OK {
		p.free <- f
		return nil, err
	}
	p.reads++
	f.at, f.s = at, s
	return f, api.OK
}

// take is a frame that holds nothing: one that waits, or else one that is given
// up for it.
func (p *Pool) take() (*frame, api.Errno) {
	select {
	case f := <-p.free:
		return f, api.OK
	default:
	}
	l := p.unpinned()
	if len(l) == 0 {
		return nil, api.ErrPinned
	}
	if err := p.giveUp(l[0]); err != api.OK {
		return nil, err
	}
	return <-p.free, api.OK
}

// giveUp lets a frame go that is held and not pinned. If its page can't be
// written it is held as before, since nobody else has what was set there.
func (p *Pool) giveUp(f *frame) api.Errno {
	if err := p.write(f); err != api.OK {
		return err
	}
	p.held = p.without(f)
	*f = frame{}
	p.free <- f
	return api.OK
}

// write brings a dirty frame's page to the device.
func (p *Pool) write(f *frame) api.Errno {
	if !f.dirty {
		return api.OK
	}
	if err := p.d.Write(f.at, f.s); err != api.OK {
		return err
	}
	p.writes++
	f.dirty = false
	return api.OK
}

// use has f held, as the one that was used last.
func (p *Pool) use(f *frame) { p.held = append(p.without(f), f) }

// without is what is held but f. It takes up the list's own memory.
func (p *Pool) without(f *frame) []*frame {
	return slices.DeleteFunc(p.held, func(g *frame) bool { return g == f })
}

// unpinned is the frames that may be given up, the one that was used longest ago
// first.
func (p *Pool) unpinned() []*frame {
	var l []*frame
	for _, f := range p.held {
		if f.pins == 0 {
			l = append(l, f)
		}
	}
	return l
}

// sectors tells those of the frames of which keep tells true, rising.
func (p *Pool) sectors(keep func(*frame) bool) []int {
	if p == nil {
		return nil
	}
	var told []int
	for _, f := range p.held {
		if keep(f) {
			told = append(told, f.at)
		}
	}
	slices.Sort(told)
	return told
}
