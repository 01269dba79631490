package files

import (
	"strings"

	"cicerone/api"
)

// burn is asked ahead of each change: it takes one from the fuse, and tells of a disk that has stopped.
func (d *Disk) burn() api.Errno {
	switch d.fuse {
	case none:
		return api.OK
	case 0:
		return api.ErrDead
	}
	d.fuse--
	return api.OK
}

// Append writes behind a file (a new one, if it is not there).
func (d *Disk) Append(name string, b []byte) (int, api.Errno) {
	if !d.made() {
		return 0, api.ErrNil
	}
	if !canName(name) {
		return 0, api.ErrArg
	}
	if e := d.burn(); e != api.OK {
		return 0, e
	}
	answer := api.OK
	if d.short != none && d.short < len(b) {
		b = b[:d.short]
		answer = api.ErrPart
	}
	d.short = none
	if !d.write(name, b) {
		return 0, api.ErrFull
	}
	return len(b), answer
}

// write puts bytes behind a file, if there is room for all of them.
func (d *Disk) write(name string, b []byte) bool {
	f := d.files[name]
	if f == nil {
		f = &file{}
	}
	if len(f.data)+len(b) > api.MaxFile || d.used+len(b) > d.room {
		return false
	}
	f.data = append(f.data, b...)
	d.used += len(b)
	if d.files[name] == nil {
		d.add(name, f)
	}
	return true
}

// add puts a file on the disk. The text that was handed in may be a piece of a far longer one, so it is not kept.
func (d *Disk) add(name string, f *file) {
	d.files[strings.Clone(name)] = f
}

// Sync makes all of a file durable.
func (d *Disk) Sync(name string) api.Errno {
	if !d.made() {
		return api.ErrNil
	}
	if e := d.burn(); e != api.OK {
		return e
	}
	f := d.files[name]
	if f == nil {
		return api.ErrFile
	}
	f.synced = len(f.data)
	return api.OK
}

// Cut leaves so many bytes of a file.
func (d *Disk) Cut(name string, n int) api.Errno {
	if !d.made() {
		return api.ErrNil
	}
	f := d.files[name]
	if n < 0 || f != nil && n > len(f.data) {
		return api.ErrArg
	}
	if e := d.burn(); e != api.OK {
		return e
	}
	if f == nil {
		return api.ErrFile
	}
	d.used -= len(f.data) - n
	f.data = f.data[:n]
	f.synced = min(f.synced, n)
	return api.OK
}

// Rename gives a file another name, at once durable.
func (d *Disk) Rename(from, to string) api.Errno {
	if !d.made() {
		return api.ErrNil
	}
	if !canName(to) {
		return api.ErrArg
	}
	if e := d.burn(); e != api.OK {
		return e
	}
	f := d.files[from]
	if f == nil {
		return api.ErrFile
	}
	// From goes ahead of to, so that a file that is renamed onto itself stays.
	delete(d.files, from)
	d.drop(to)
	d.add(to, f)
	return api.OK
}

// Remove takes a file away, at once durable.
func (d *Disk) Remove(name string) api.Errno {
	if !d.made() {
		return api.ErrNil
	}
	if e := d.burn(); e != api.OK {
		return e
	}
	if d.files[name] == nil {
		return api.ErrFile
	}
	d.drop(name)
	return api.OK
}

// drop takes a file away, if it is there, and gives its room back.
func (d *Disk) drop(name string) {
	if f := d.files[name]; f != nil {
		d.used -= len(f.data)
		delete(d.files, name)
	}
}
