package seglog

import (
	"slices"

	"cicerone/api"
	"cicerone/files"
)

// Open is a disk's log, and its records.
func Open(d *files.Disk) (*Log, [][]byte, api.Errno) {
	b, found := d.Read(manifest)
	if found == api.ErrNil {
		return nil, nil, found
	}
	l := &Log{disk: d}
	if e := l.remove(newManifest); e != api.OK {
		return nil, nil, e
	}
	if found != api.OK {
		if e := l.begin(); e != api.OK {
			return nil, nil, e
		}
		return l, nil, api.OK
	}
	segments, ok := segmentNumbers(b)
	if !ok {
		return nil, nil, api.ErrLog
	}
	l.numbers = segments
	recs, e := l.restore()
	if e != api.OK {
		return nil, nil, e
	}
	return l, recs, api.OK
}

// begin makes a log on a disk without files.
func (l *Log) begin() api.Errno {
	if len(l.disk.List()) > 0 {
		return api.ErrLog
	}
	return l.become([]int{1})
}

// restore leaves of the disk what the manifest and whole frames say, durable, and tells the records.
func (l *Log) restore() ([][]byte, api.Errno) {
	foreign := slices.DeleteFunc(l.others(), func(name string) bool { return name == manifest })
	if e := l.remove(foreign...); e != api.OK {
		return nil, e
	}
	recs, e := l.readAll()
	if e != api.OK {
		return nil, e
	}
	return recs, l.syncAll()
}

// readAll is the records of all segments, up to the first bytes that are no frame; these, and all behind them, are there no more.
func (l *Log) readAll() ([][]byte, api.Errno) {
	var all [][]byte
	for i, n := range l.numbers {
		// A segment whose file is not there has no bytes.
		b, _ := l.disk.Read(fileName(n))
		recs, whole := records(b)
		all = append(all, recs...)
		if whole < len(b) {
			return all, l.cut(i, whole)
		}
	}
	return all, api.OK
}

// cut leaves so many bytes of a segment, and no segments behind it.
func (l *Log) cut(segment, size int) api.Errno {
	if e := l.met(l.disk.Cut(fileName(l.numbers[segment]), size)); e != api.OK {
		return e
	}
	behind := l.Segments()[segment+1:]
	if len(behind) == 0 {
		return api.OK
	}
	if e := l.become(l.numbers[:segment+1]); e != api.OK {
		return e
	}
	return l.remove(behind...)
}

// syncAll makes each segment durable that has a file.
func (l *Log) syncAll() api.Errno {
	for _, name := range l.Segments() {
		if _, there := l.size(name); !there {
			continue
		}
		if e := l.sync(name); e != api.OK {
			return e
		}
	}
	return api.OK
}
