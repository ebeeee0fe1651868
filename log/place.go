package log

import (
	"strings"

	"hedgerow/api"
	"hedgerow/dev"
	"hedgerow/num"
)

const (
	// fewest: a device with fewer sectors has no log.
	fewest = 8
	// spare: sectors that stand in no area.
	spare = 4
	areas = 2
	// piece: how many bytes of a text a sector has. The last piece of a text is
	// shorter, even if it is empty, so the pieces tell where a text ends.
	piece = 500
	// markAt, firstArea: sectors. Between them the slots 1 and 2 stand, each in
	// the sector of its own number.
	markAt    = 0
	firstArea = 3
)

// place is where a state stands: in the first used sectors of an area, 0 or 1,
// as a slot, 1 or 2, says. The zero place is that of a device without a log.
type place struct{ slot, area, used int }

// areaOf is how many sectors each of the areas of d has.
func areaOf(d *dev.Dev) int { return (d.Sectors() - spare) / areas }

// sectorsOf is how many sectors a text takes.
func sectorsOf(text string) int { return len(text)/piece + 1 }

// sector is where the i-th sector of an area is.
func (l *Log) sector(area, i int) int { return firstArea + area*areaOf(l.d) + i }

// store makes text the last one of the state, from the sector from of the area
// on; what stands ahead of it there is of that state, too.
func (l *Log) store(area, from int, text string) api.Errno {
	next := place{slot: l.at.slot%2 + 1, area: area, used: from + sectorsOf(text)}
	err := l.attempt(func() {
		// A crash that lost the last turn of the mark would bring back the state
		// ahead of it, and that one's slot, perhaps its area, is written here.
		l.flush()
		l.writeText(area, from, text)
		l.write(next.slot, num.Put(uint64(next.area))+num.Put(uint64(next.used)))
		l.flush()
		l.write(markAt, num.Put(uint64(next.slot)))
	})
	if err == api.OK {
		l.at = next
	}
	return err
}

func (l *Log) writeText(area, from int, text string) {
	for i := range sectorsOf(text) {
		end := min((i+1)*piece, len(text))
		l.write(l.sector(area, from+i), num.PutText(text[i*piece:end]))
	}
}

// load finds the state, and makes it safe: opened without a crash the device may
// hold back the turn of the mark that it hangs on.
func (l *Log) load() {
	l.at = l.find()
	if l.at == (place{}) {
		panic(api.ErrForm)
	}
	texts := l.texts()
	l.base, l.records = texts[0], texts[1:]
	l.flush()
}

// find is the place of the state that counts.
func (l *Log) find() place {
	slot := int(l.read(markAt)[0])
	if slot != 1 && slot != 2 {
		return place{}
	}
	s := l.read(slot)
	area, size, ok := num.Get(s, 0)
	used, _, more := num.Get(s, size)
	if !ok || !more || area >= areas || used < 1 || used > uint64(areaOf(l.d)) {
		return place{}
	}
	return place{slot: slot, area: int(area), used: int(used)}
}

// texts are those of the state: at least one, since it takes a sector.
func (l *Log) texts() []string {
	var told []string
	var text []byte
	for i := range l.at.used {
		s, _, ok := num.GetText(l.read(l.sector(l.at.area, i)), 0, piece)
		if !ok {
			panic(api.ErrForm)
		}
		text = append(text, s...)
		if len(s) < piece {
			told, text = append(told, string(text)), nil
		}
	}
	if len(text) > 0 {
		panic(api.ErrForm)
	}
	return told
}

func (l *Log) read(at int) string {
	s, err := l.d.Read(at)
	throw(err)
	return s
}

// write fills up s to a sector's bytes.
func (l *Log) write(at int, s string) {
	throw(l.d.Write(at, s+strings.Repeat("\x00", api.Sector-len(s))))
}

func (l *Log) flush() { throw(l.d.Flush()) }

func throw(err api.Errno) {
	if err != api.OK {
		panic(err)
	}
}
