package seglog

import (
	"slices"

	"cicerone/api"
)

// Append puts a record behind all others.
func (l *Log) Append(rec []byte) api.Errno {
	if !l.made() {
		return api.ErrNil
	}
	frame, e := Frame(rec)
	if e != api.OK {
		return e
	}
	if l.stopped {
		return api.ErrDead
	}
	if e := l.close(); e != api.OK {
		return e
	}
	return l.add(fileName(l.last()), frame)
}

// close has a segment behind the last one, if that is long enough.
func (l *Log) close() api.Errno {
	name := fileName(l.last())
	if size, _ := l.size(name); size < api.Segment {
		return api.OK
	}
	if l.last() == mostNumber || len(l.numbers) == mostSegments {
		return api.ErrFull
	}
	// It is durable ahead of all that comes behind it: so a crash leaves no gap.
	if e := l.sync(name); e != api.OK {
		return e
	}
	return l.become(append(slices.Clone(l.numbers), l.last()+1))
}

// add puts a frame behind a segment, or leaves the segment as it was.
func (l *Log) add(name string, frame []byte) api.Errno {
	size, there := l.size(name)
	e := l.write(name, frame)
	if e == api.OK {
		return api.OK
	}
	if there {
		l.met(l.disk.Cut(name, size))
	} else {
		l.remove(name)
	}
	return e
}

// Sync makes all records durable: all segments but the last one are already.
func (l *Log) Sync() api.Errno {
	if !l.made() {
		return api.ErrNil
	}
	if l.stopped {
		return api.ErrDead
	}
	name := fileName(l.last())
	if _, there := l.size(name); !there {
		return api.OK
	}
	return l.sync(name)
}

// Replace has these records in the place of all.
func (l *Log) Replace(recs [][]byte) api.Errno {
	if !l.made() {
		return api.ErrNil
	}
	for _, rec := range recs {
		if !canRecord(rec) {
			return api.ErrArg
		}
	}
	if l.stopped {
		return api.ErrDead
	}
	if l.last() == mostNumber {
		return api.ErrFull
	}
	old, next := l.Segments(), l.last()+1
	if e := l.move(next, recs); e != api.OK {
		l.remove(fileName(next))
		return e
	}
	return l.remove(old...)
}

// move writes records to a new segment, and has the log consist of it.
func (l *Log) move(segment int, recs [][]byte) api.Errno {
	name := fileName(segment)
	for _, rec := range recs {
		frame, _ := Frame(rec)
		if e := l.write(name, frame); e != api.OK {
			return e
		}
	}
	if len(recs) > 0 {
		if e := l.sync(name); e != api.OK {
			return e
		}
	}
	return l.become([]int{segment})
}
