package files

import "cicerone/api"

// Short has the next Append write so many bytes at most.
func (d *Disk) Short(n int) api.Errno {
	if !d.made() {
		return api.ErrNil
	}
	if n < 0 {
		return api.ErrArg
	}
	d.short = n
	return api.OK
}

// Room is for so many bytes from now on.
func (d *Disk) Room(n int) api.Errno {
	if !d.made() {
		return api.ErrNil
	}
	if !canRoom(n) {
		return api.ErrArg
	}
	d.room = n
	return api.OK
}

// Fuse has the disk stop behind so many changes.
func (d *Disk) Fuse(n int) api.Errno {
	if !d.made() {
		return api.ErrNil
	}
	if n < 0 {
		return api.ErrArg
	}
	d.fuse = n
	return api.OK
}

// Crash loses what is not synced, but for what the tails keep.
func (d *Disk) Crash(l []api.Tail) api.Errno {
	if !d.made() {
		return api.ErrNil
	}
	tails := firstTails(l)
	d.used = 0
	for name, f := range d.files {
		f.crash(tails[name])
		d.used += len(f.data)
	}
	d.short = none
	d.fuse = none
	return api.OK
}

// firstTails is the first tail of each name.
func firstTails(l []api.Tail) map[string]api.Tail {
	tails := map[string]api.Tail{}
	for _, t := range l {
		if _, ok := tails[t.Name]; !ok {
			tails[t.Name] = t
		}
	}
	return tails
}

// crash leaves what is synced, and what the tail keeps; the plain tail keeps nothing.
func (f *file) crash(t api.Tail) {
	kept := min(max(t.Keep, 0), len(f.data)-f.synced)
	f.data = f.data[:f.synced+kept]
	f.synced = len(f.data)
	if kept > 0 && t.Turn {
		f.data[len(f.data)-1] ^= 1
	}
}
