package store_test

import (
	"slices"
	"strings"
	"testing"

	"cicerone/api"
	"cicerone/entry"
	"cicerone/files"
	"cicerone/seglog"
	"cicerone/store"
)

// plain is a second store, that does by the chapter's words what a store does, step by step, and goes through all its sets for whatever it is asked.
type plain struct {
	l      *seglog.Log
	most   int
	sets   []api.Set
	memory bool
}

// labels is a name's, in small letters.
func labels(n string) []string {
	var l []string
	for n[0] != 0 {
		l = append(l, strings.Map(func(r rune) rune {
			if r >= 'A' && r <= 'Z' {
				return r - 'A' + 'a'
			}
			return r
		}, n[1:1+n[0]]))
		n = n[1+n[0]:]
	}
	return l
}

// compare puts sets in order, by their keys.
func compare(a, b api.Set) int {
	l, m := labels(a.Name), labels(b.Name)
	slices.Reverse(l)
	slices.Reverse(m)
	if c := slices.Compare(l, m); c != 0 {
		return c
	}
	if a.Type != b.Type {
		return a.Type - b.Type
	}
	return a.Class - b.Class
}

// isFresh tells whether a set is, at a time.
func isFresh(s api.Set, now int) bool { return max(0, min(now, 1<<40-api.MaxTTL)) < s.Expires }

// find is where a key's set stands; below 0, if it is not there.
func (p *plain) find(name string, kind, class int) int {
	return slices.IndexFunc(p.sets, func(s api.Set) bool {
		return compare(s, api.Set{Name: name, Type: kind, Class: class}) == 0
	})
}

// take takes a key's set away, and tells whether it was there.
func (p *plain) take(name string, kind, class int) bool {
	at := p.find(name, kind, class)
	if at >= 0 {
		p.sets = slices.Delete(p.sets, at, at+1)
	}
	return at >= 0
}

// ordered is the sets in order.
func (p *plain) ordered() []api.Set { return slices.SortedFunc(slices.Values(p.sets), compare) }

// bytes is the sets' sizes together.
func (p *plain) bytes() int {
	sum := 0
	for _, s := range p.sets {
		sum += size(s)
	}
	return sum
}

// plainOpen is Open of a disk that is there.
func plainOpen(d *files.Disk, now, most int) (*plain, api.Errno) {
	l, recs, e := seglog.Open(d)
	if e != api.OK {
		return nil, e
	}
	p := &plain{l: l, most: most}
	for _, rec := range recs {
		x, e := entry.Decode(rec)
		if e != api.OK {
			return nil, api.ErrEntry
		}
		p.take(x.Set.Name, x.Set.Type, x.Set.Class)
		if !x.Delete {
			p.sets = append(p.sets, x.Set)
		}
	}
	p.sets = slices.DeleteFunc(p.sets, func(s api.Set) bool { return !isFresh(s, now) })
	p.push(now, nil)
	return p, api.OK
}

// push is what is pushed out.
func (p *plain) push(now int, own *api.Set) {
	for p.bytes() > p.most {
		l := p.ordered()
		goes := slices.IndexFunc(l, func(s api.Set) bool { return !isFresh(s, now) })
		for i, s := range l {
			if goes >= 0 && !isFresh(l[goes], now) {
				break
			}
			if (own == nil || compare(s, *own) != 0) && (goes < 0 || s.Expires < l[goes].Expires) {
				goes = i
			}
		}
		p.take(l[goes].Name, l[goes].Type, l[goes].Class)
	}
}

// write is a write, by one who takes such sets for fresh.
func (p *plain) write(isFresh func(s api.Set) bool, l ...api.Entry) {
	if p.memory {
		return
	}
	for _, x := range l {
		if p.l.Append(bytesOf(x)) != api.OK {
			if p.replace(isFresh) != api.OK {
				p.memory = true
				return
			}
			break
		}
	}
	if p.l.Bytes() > 2*(p.most+8000) {
		p.replace(isFresh)
	}
}

// replace writes such sets anew.
func (p *plain) replace(isFresh func(s api.Set) bool) api.Errno {
	var recs [][]byte
	for _, s := range p.ordered() {
		if isFresh(s) {
			recs = append(recs, bytesOf(put(s)))
		}
	}
	return p.l.Replace(recs)
}

// at is who takes sets for fresh that are it at a time.
func at(now int) func(s api.Set) bool {
	return func(s api.Set) bool { return isFresh(s, now) }
}

// put is Put.
func (p *plain) put(x api.Set, now int) api.Errno {
	if !entry.Can(x) || !isFresh(x, now) {
		return api.ErrArg
	}
	if size(x) > p.most {
		return api.ErrFull
	}
	if i := p.find(x.Name, x.Type, x.Class); i >= 0 && isFresh(p.sets[i], now) && p.sets[i].Rank > x.Rank {
		return api.OK
	}
	var l []api.Entry
	if x.Kind != api.SetNothing && p.take(x.Name, 0, x.Class) {
		l = append(l, drop(x.Name, 0, x.Class))
	}
	p.take(x.Name, x.Type, x.Class)
	p.sets = append(p.sets, x)
	p.write(at(now), append(l, put(x))...)
	p.push(now, &x)
	return api.OK
}

// drop is Delete.
func (p *plain) drop(name string, kind, class int) api.Errno {
	if !p.take(name, kind, class) {
		return api.ErrAbsent
	}
	p.write(func(api.Set) bool { return true }, drop(name, kind, class))
	return api.OK
}

// lookup is Lookup.
func (p *plain) lookup(name string, kind, class, now int) []api.Set {
	for _, kind := range []int{kind, 0} {
		if i := p.find(name, kind, class); i >= 0 && isFresh(p.sets[i], now) {
			return sets(p.sets[i])
		}
	}
	return nil
}

// both are a store and a plain one, each on a disk of its own.
type both struct {
	d, e *files.Disk
	s    *store.Store
	p    *plain
}

// bothOf opens both, each on a copy of a disk.
func bothOf(t *testing.T, d *files.Disk, now, most int) *both {
	t.Helper()
	b := &both{d: d.Copy(), e: d.Copy()}
	b.open(t, now, most)
	return b
}

// open opens both anew.
func (b *both) open(t *testing.T, now, most int) {
	t.Helper()
	var got, want api.Errno
	b.s, got = store.Open(b.d, now, most)
	b.p, want = plainOpen(b.e, now, most)
	if got != want {
		t.Fatalf("Open is %d, not %d", got, want)
	}
	if got == api.OK {
		b.same(t)
	}
}

// disks has something be done to both disks.
func (b *both) disks(do func(d *files.Disk)) {
	do(b.d)
	do(b.e)
}

// put, drop, sync and compact have both go through a call.
func (b *both) put(t *testing.T, x api.Set, now int) {
	t.Helper()
	is(t, b.s.Put(x, now), b.p.put(x, now))
	b.same(t)
}

func (b *both) drop(t *testing.T, name string, kind, class int) {
	t.Helper()
	is(t, b.s.Delete(name, kind, class), b.p.drop(name, kind, class))
	b.same(t)
}

func (b *both) sync(t *testing.T) {
	t.Helper()
	want := api.OK
	if !b.p.memory {
		want = b.p.l.Sync()
	}
	is(t, b.s.Sync(), want)
	b.same(t)
}

func (b *both) compact(t *testing.T, now int) {
	t.Helper()
	want := api.OK
	if !b.p.memory {
		want = b.p.replace(at(now))
	}
	is(t, b.s.Compact(now), want)
	b.same(t)
}

// same asks that both have the same, in memory and on their disks.
func (b *both) same(t *testing.T) {
	t.Helper()
	got, want := told(puts(b.s.Sets()...)...), told(puts(b.p.ordered()...)...)
	if got != want || b.s.Bytes() != b.p.bytes() || b.s.Memory() != b.p.memory {
		t.Fatalf("the store has%s\n%d bytes, memory %v, not%s\n%d bytes, memory %v", got, b.s.Bytes(), b.s.Memory(), want, b.p.bytes(), b.p.memory)
	}
	if b.s.Bytes() > b.p.most {
		t.Errorf("the sets have %d bytes, more than %d", b.s.Bytes(), b.p.most)
	}
	if got, want := shot(b.d), shot(b.e); got != want {
		t.Fatalf("the disk has\n%.3000s\nnot\n%.3000s", got, want)
	}
}
