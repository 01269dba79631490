package store_test

import (
	"encoding/binary"
	"fmt"
	"slices"
	"strings"
	"testing"

	"cicerone/api"
	"cicerone/entry"
	"cicerone/files"
	"cicerone/seglog"
	"cicerone/store"
)

// Names, and bytes that are none.
const (
	root    = "\x00"
	example = "\x07example\x00"
	www     = "\x03www\x07example\x00"
	great   = "\x03WWW\x07eXAMPLE\x00"
	noName  = "\x03www"
)

// most is more than the sets of a test have, room more than their disks, long a fuse that does not burn down.
const (
	most = 1 << 40
	room = 1 << 40
	long = 1 << 30
)

// textType is a type whose data are any bytes.
const textType = 777

// set is a set of that type, ClassIN and RankAnswer.
func set(name string, expires int, datas ...string) api.Set {
	s := api.Set{Name: name, Type: textType, Class: api.ClassIN, Rank: api.RankAnswer, Expires: expires}
	for _, data := range datas {
		s.Datas = append(s.Datas, []byte(data))
	}
	return s
}

// sized is a set of the root's, of a type, whose entry has so many bytes, 22 at least.
func sized(kind, expires, size int) api.Set {
	s := set(root, expires, strings.Repeat("x", size-22))
	s.Type = kind
	return s
}

// soa is the data of a zone's SOA.
var soa = root + root + strings.Repeat("\x00\x00\x00\x05", 5)

// none says that a name has nothing of textType, nothing that it is not there.
func none(name string, expires int) api.Set {
	return with(set(name, expires, soa), func(s *api.Set) { s.Kind, s.Zone = api.SetNone, example })
}
func nothing(name string, expires int) api.Set {
	return with(none(name, expires), func(s *api.Set) { s.Kind, s.Type = api.SetNothing, 0 })
}

// with is a set, changed.
func with(s api.Set, change func(s *api.Set)) api.Set {
	change(&s)
	return s
}

// put and drop are entries.
func put(s api.Set) api.Entry { return api.Entry{Set: s} }
func drop(name string, kind, class int) api.Entry {
	return api.Entry{Delete: true, Set: api.Set{Name: name, Type: kind, Class: class}}
}

// bytesOf is an entry's bytes, by the words of entry's chapter.
func bytesOf(x api.Entry) []byte {
	s := x.Set
	b := []byte{0, byte(len(s.Name))}
	if x.Delete {
		b[0] = 1
	}
	b = append(b, s.Name...)
	b = binary.BigEndian.AppendUint16(b, uint16(s.Type))
	b = binary.BigEndian.AppendUint16(b, uint16(s.Class))
	if x.Delete {
		return b
	}
	b = append(b, byte(s.Rank), byte(s.Kind))
	b = binary.BigEndian.AppendUint64(b, uint64(s.Expires))
	b = append(b, byte(len(s.Zone)))
	b = append(b, s.Zone...)
	b = binary.BigEndian.AppendUint16(b, uint16(len(s.Datas)))
	for _, data := range s.Datas {
		b = binary.BigEndian.AppendUint16(b, uint16(len(data)))
		b = append(b, data...)
	}
	return b
}

// size is a set's.
func size(s api.Set) int { return len(bytesOf(put(s))) }

// told is sets as a text, deletes with a word ahead.
func told(l ...api.Entry) string {
	text := ""
	for _, x := range l {
		s := x.Set
		text += "\n"
		if x.Delete {
			text += "delete "
		}
		text += fmt.Sprintf("%q type %d class %d rank %d kind %d expires %d zone %q:", s.Name, s.Type, s.Class, s.Rank, s.Kind, s.Expires, s.Zone)
		for _, data := range s.Datas {
			text += fmt.Sprintf(" %d %.20q,", len(data), data)
		}
	}
	return text
}

// sets is some, in a list.
func sets(l ...api.Set) []api.Set { return l }

// puts is the entries that put sets.
func puts(l ...api.Set) []api.Entry {
	var all []api.Entry
	for _, s := range l {
		all = append(all, put(s))
	}
	return all
}

// is asks for an error's number.
func is(t *testing.T, got, want api.Errno) {
	t.Helper()
	if got != want {
		t.Errorf("the answer is %d, not %d", got, want)
	}
}

// fresh is a disk without files.
func fresh(t *testing.T) *files.Disk {
	t.Helper()
	d, e := files.New(room)
	is(t, e, api.OK)
	return d
}

// open is a disk's store.
func open(t *testing.T, d *files.Disk, now, most int) *store.Store {
	t.Helper()
	s, e := store.Open(d, now, most)
	if s == nil || e != api.OK {
		t.Fatalf("Open is %v, %d", s, e)
	}
	return s
}

// keep puts sets, each of which is to be taken.
func keep(t *testing.T, s *store.Store, now int, l ...api.Set) {
	t.Helper()
	for _, x := range l {
		if e := s.Put(x, now); e != api.OK {
			t.Fatalf("Put of%s is %d", told(put(x)), e)
		}
	}
}

// made is a store without sets, which may have so many bytes, and its disk.
func made(t *testing.T, most int) (*files.Disk, *store.Store) {
	t.Helper()
	d := fresh(t)
	return d, open(t, d, 0, most)
}

// has asks which sets a store has, in order.
func has(t *testing.T, s *store.Store, want ...api.Set) {
	t.Helper()
	got, sum := s.Sets(), 0
	if told(puts(got...)...) != told(puts(want...)...) || !slices.EqualFunc(got, want, entry.Same) {
		t.Errorf("the sets are%s\nnot%s", told(puts(got...)...), told(puts(want...)...))
	}
	for _, x := range want {
		sum += size(x)
		if y, ok := s.Lookup(x.Name, x.Type, x.Class, x.Expires-1); x.Expires <= 1<<40-api.MaxTTL && (!ok || !entry.Same(x, y)) {
			t.Errorf("Lookup of%s is%s, %v", told(put(x)), told(put(y)), ok)
		}
	}
	if s.Bytes() != sum {
		t.Errorf("Bytes is %d, not %d", s.Bytes(), sum)
	}
}

// records is those of a disk's log, which is left as it is.
func records(t *testing.T, d *files.Disk) [][]byte {
	t.Helper()
	c := d.Copy()
	c.Room(room)
	c.Fuse(long)
	_, recs, e := seglog.Open(c)
	is(t, e, api.OK)
	return recs
}

// written asks which entries stand in a disk's log.
func written(t *testing.T, d *files.Disk, want ...api.Entry) {
	t.Helper()
	var got []api.Entry
	same := true
	for i, rec := range records(t, d) {
		x, e := entry.Decode(rec)
		is(t, e, api.OK)
		got = append(got, x)
		same = same && i < len(want) && string(rec) == string(bytesOf(want[i]))
	}
	if !same || len(got) != len(want) {
		t.Errorf("the log has%s\nnot%s", told(got...), told(want...))
	}
}

// laid is a disk whose log has these records.
func laid(t *testing.T, recs ...[]byte) *files.Disk {
	t.Helper()
	d := fresh(t)
	l, _, e := seglog.Open(d)
	is(t, e, api.OK)
	for _, rec := range recs {
		is(t, l.Append(rec), api.OK)
	}
	return d
}

// logged is a disk whose log has these entries.
func logged(t *testing.T, l ...api.Entry) *files.Disk {
	t.Helper()
	var recs [][]byte
	for _, x := range l {
		recs = append(recs, bytesOf(x))
	}
	return laid(t, recs...)
}

// shot is all that a disk has, as a text.
func shot(d *files.Disk) string {
	text := ""
	for _, name := range d.List() {
		b, _ := d.Read(name)
		text += fmt.Sprintf("%s: %d of %d bytes %x\n", name, d.Synced(name), len(b), b)
	}
	return text
}

// burned is how many changes a call makes of the disk, whose fuse it leaves long.
func burned(t *testing.T, d *files.Disk, call func()) int {
	t.Helper()
	const fuse = 5000
	is(t, d.Fuse(fuse), api.OK)
	call()
	c, left := d.Copy(), 0
	for c.Sync("none") != api.ErrDead {
		left++
	}
	is(t, d.Fuse(long), api.OK)
	return fuse - left
}

// silent asks that a call answers this error, and makes no change of the disk.
func silent(t *testing.T, d *files.Disk, want api.Errno, call func() api.Errno) {
	t.Helper()
	before := shot(d)
	if n := burned(t, d, func() { is(t, call(), want) }); n != 0 {
		t.Errorf("%d changes of the disk", n)
	}
	if got := shot(d); got != before {
		t.Errorf("the disk has\n%sand had\n%s", got, before)
	}
}

// unchanged asks that a call answers this error, and changes neither the disk nor the store.
func unchanged(t *testing.T, d *files.Disk, s *store.Store, want api.Errno, call func() api.Errno) {
	t.Helper()
	sets, memory := s.Sets(), s.Memory()
	silent(t, d, want, call)
	has(t, s, sets...)
	if s.Memory() != memory {
		t.Errorf("Memory is %v", s.Memory())
	}
}
