package seglog_test

import (
	"fmt"
	"maps"
	"math/rand/v2"
	"slices"
	"testing"

	"cicerone/api"
	"cicerone/files"
	"cicerone/seglog"
)

// call is a drawn call of a log: 'a' appends a record, 's' syncs, 'r' replaces by records; fault has the disk's next write go wrong, if it is not below 0.
type call struct {
	kind  byte
	recs  []string
	fault int
}

// drawnRecord is a record, seldom a great one; no two are the same.
func drawnRecord(r *rand.Rand, count *int) string {
	*count++
	rec := fmt.Sprintf("%d.", *count)
	if r.IntN(3) == 0 {
		rec += of('x', 3000+r.IntN(990))
	}
	return rec
}

// drawnCalls are some calls.
func drawnCalls(r *rand.Rand, n int) []call {
	count := 0
	var l []call
	for range n {
		c := call{kind: 'a', fault: -1}
		switch r.IntN(12) {
		case 0, 1:
			c.kind = 's'
		case 2:
			c.kind = 'r'
			for range r.IntN(4) {
				c.recs = append(c.recs, drawnRecord(r, &count))
			}
		default:
			c.recs = []string{drawnRecord(r, &count)}
		}
		if r.IntN(6) == 0 {
			c.fault = r.IntN(60)
		}
		l = append(l, c)
	}
	return l
}

// known is what a log must have: what is safe, what was appended since, and what a Replace that the disk stopped was to put in the place of all.
type known struct {
	safe, since []string
	within      bool
	instead     []string
}

// run has a log go through calls until the disk stops.
func run(d *files.Disk, l *seglog.Log, calls []call) known {
	var k known
	for _, c := range calls {
		if c.fault >= 0 {
			d.Short(c.fault)
		}
		var e api.Errno
		switch c.kind {
		case 'a':
			if e = l.Append([]byte(c.recs[0])); e == api.OK {
				k.since = append(k.since, c.recs[0])
			}
		case 's':
			if e = l.Sync(); e == api.OK {
				k.safe, k.since = append(k.safe, k.since...), nil
			}
		case 'r':
			if e = l.Replace(recs(c.recs...)); e == api.OK {
				k.safe, k.since = c.recs, nil
			} else if e == api.ErrDead {
				k.within, k.instead = true, c.recs
			}
		}
		if e == api.ErrDead {
			return k
		}
	}
	return k
}

// may tells whether a log may tell these records behind a crash.
func (k known) may(recs []string) bool {
	if k.within && slices.Equal(recs, k.instead) {
		return true
	}
	all := slices.Concat(k.safe, k.since)
	return len(recs) >= len(k.safe) && len(recs) <= len(all) && slices.Equal(recs, all[:len(recs)])
}

// drawnTails keep of each file nothing, all, or some of what is not synced, some of them with a turned bit.
func drawnTails(r *rand.Rand, d *files.Disk, kind int) []api.Tail {
	var l []api.Tail
	for _, name := range d.List() {
		b, _ := d.Read(name)
		loose := len(b) - d.Synced(name)
		keep := []int{0, loose, loose, r.IntN(loose + 1), r.IntN(loose + 1)}[kind]
		l = append(l, api.Tail{Name: name, Keep: keep, Turn: kind == 2 || kind == 4})
	}
	return l
}

// P7.7, P7.8: a crash behind each change of drawn calls, and another one behind each change of the Open that follows.
func TestCrashes(t *testing.T) {
	for seed := range uint64(25) {
		r := rand.New(rand.NewPCG(seed, 7))
		calls := drawnCalls(r, 14)
		for fuse, whole := 0, false; !whole; fuse++ {
			d, l := made(t, shot{})
			is(t, d.Fuse(fuse), api.OK)
			k := run(d, l, calls)
			whole = d.Sync("none") != api.ErrDead
			for kind := range 5 {
				c := d.Copy()
				c.Crash(drawnTails(r, c, kind))
				crashed := c.Copy()
				log, got, e := seglog.Open(c)
				if e != api.OK || !k.may(texts(got)) {
					t.Fatalf("seed %d, fuse %d, crash %d: Open tells %s, %d; safe are %s, since then %s, instead (%t) %s", seed, fuse, kind, short(texts(got)), e, short(k.safe), short(k.since), k.within, short(k.instead))
				}
				again(t, c, texts(got))
				if r.IntN(8) == 0 {
					crashWithin(t, r, crashed, texts(got))
				}
				add(t, log, "next")
				open(t, c, append(texts(got), "next")...)
			}
		}
	}
}

// again asks that an Open of what Open left tells the same records, and syncs what is there alone.
func again(t *testing.T, d *files.Disk, want []string) {
	t.Helper()
	before, l := taken(t, d), (*seglog.Log)(nil)
	n := burned(t, d, func() { l = open(t, d, want...) })
	has(t, d, before)
	for _, name := range l.Segments() {
		if _, ok := before[name]; ok {
			n--
		}
	}
	if n != 0 {
		t.Errorf("%d changes more than segments that are synced", n)
	}
	if !maps.Equal(before, taken(t, d)) {
		t.Errorf("the disk has changed")
	}
}

// crashWithin has the disk stop behind each change of Open, and crash: another Open tells the same.
func crashWithin(t *testing.T, r *rand.Rand, crashed *files.Disk, want []string) {
	t.Helper()
	for fuse := 0; ; fuse++ {
		d := crashed.Copy()
		d.Fuse(fuse)
		_, _, e := seglog.Open(d)
		if e != api.OK && e != api.ErrDead {
			t.Fatalf("with a fuse of %d Open is %d", fuse, e)
		}
		d.Crash(drawnTails(r, d, r.IntN(5)))
		open(t, d, want...)
		if e == api.OK {
			return
		}
	}
}

// plain is a second log, that does by the chapter's words what a log does on a disk that does not stop.
type plain struct {
	d       *files.Disk
	numbers []int
}

// there tells whether a file is there, and its bytes.
func (p *plain) there(name string) (string, bool) {
	b, e := p.d.Read(name)
	return string(b), e == api.OK
}

// manifest writes one.
func (p *plain) manifest(numbers ...int) api.Errno {
	var l []uint64
	for _, n := range numbers {
		l = append(l, uint64(n))
	}
	if _, e := p.d.Append("manifest.new", []byte(listed(l...))); e != api.OK {
		p.d.Remove("manifest.new")
		return e
	}
	p.d.Sync("manifest.new")
	p.d.Rename("manifest.new", "manifest")
	p.numbers = numbers
	return api.OK
}

// open is Open on a disk whose manifest has these numbers.
func (p *plain) open() ([]string, api.Errno) {
	p.d.Remove("manifest.new")
	for _, name := range p.d.List() {
		mine := name == "manifest" || slices.ContainsFunc(p.numbers, func(n int) bool { return seg(n) == name })
		if !mine {
			p.d.Remove(name)
		}
	}
	var all []string
	for i, n := range p.numbers {
		b, _ := p.there(seg(n))
		recs, size := wholeFrames(b)
		all = append(all, recs...)
		if size < len(b) {
			p.d.Cut(seg(n), size)
			behind := p.numbers[i+1:]
			if len(behind) > 0 {
				if e := p.manifest(p.numbers[:i+1]...); e != api.OK {
					return nil, e
				}
			}
			for _, m := range behind {
				p.d.Remove(seg(m))
			}
			break
		}
	}
	for _, n := range p.numbers {
		p.d.Sync(seg(n))
	}
	return all, api.OK
}

// wholeFrames is the records that bytes begin with, and how many bytes their frames have: it tries each length there is.
func wholeFrames(b string) (recs []string, size int) {
next:
	for at := size + 40; at < len(b) && at < size+40+api.MaxRecord; at++ {
		if length := at + 1 - size - 40; b[size+2] == byte(length>>8) && b[size+3] == byte(length) && framed(b[size+40:at+1]) == b[size:at+1] {
			recs, size = append(recs, b[size+40:at+1]), at+1
			goto next
		}
	}
	return recs, size
}

// add is Append.
func (p *plain) add(rec string) api.Errno {
	last := p.numbers[len(p.numbers)-1]
	if b, _ := p.there(seg(last)); len(b) >= 8000 {
		p.d.Sync(seg(last))
		last++
		if e := p.manifest(append(slices.Clone(p.numbers), last)...); e != api.OK {
			return e
		}
	}
	was, there := p.there(seg(last))
	_, e := p.d.Append(seg(last), []byte(framed(rec)))
	if e != api.OK && there {
		p.d.Cut(seg(last), len(was))
	} else if e != api.OK {
		p.d.Remove(seg(last))
	}
	return e
}

// replace is Replace.
func (p *plain) replace(recs []string) api.Errno {
	next := p.numbers[len(p.numbers)-1] + 1
	for _, rec := range recs {
		if _, e := p.d.Append(seg(next), []byte(framed(rec))); e != api.OK {
			p.d.Remove(seg(next))
			return e
		}
	}
	p.d.Sync(seg(next))
	old := p.numbers
	if e := p.manifest(next); e != api.OK {
		p.d.Remove(seg(next))
		return e
	}
	for _, n := range old {
		p.d.Remove(seg(n))
	}
	return api.OK
}

// both are a log and a plain one, each on a disk of its own.
type both struct {
	d     *files.Disk
	l     *seglog.Log
	plain plain
}

// fault has both disks fail in a drawn way, and changes their files by hand where somebody opens the log behind it; it tells whether somebody must.
func (b *both) fault(r *rand.Rand) bool {
	room, n, tails := b.d.Used()+r.IntN(200), r.IntN(70), drawnTails(r, b.d, r.IntN(5))
	what, name := r.IntN(9), []string{"foreign", "manifest.new", seg(r.IntN(9)), seg(b.plain.numbers[r.IntN(len(b.plain.numbers))])}[r.IntN(4)]
	for _, d := range []*files.Disk{b.d, b.plain.d} {
		switch what {
		case 0, 1:
			d.Room(room)
		case 2, 3, 4:
			d.Room(great)
		case 5, 6:
			d.Short(n)
		case 7:
			d.Crash(tails)
		case 8:
			d.Append(name, []byte(of('!', n)))
			if n%2 == 0 {
				d.Cut(name, n/2)
			}
		}
	}
	return what >= 7
}

// open opens both, and is what each tells; where they can't be opened they have room then, and are opened again.
func (b *both) open(t *testing.T) {
	t.Helper()
	l, got, e := seglog.Open(b.d)
	want, f := b.plain.open()
	if e != f || !slices.Equal(texts(got), want) {
		t.Fatalf("Open tells %s, %d, not %s, %d", short(texts(got)), e, short(want), f)
	}
	if e != api.OK {
		b.d.Room(great)
		b.plain.d.Room(great)
		b.open(t)
		return
	}
	b.l = l
	again(t, b.d.Copy(), want)
}

// change has both go through one drawn call, and is what each answers.
func (b *both) change(t *testing.T, r *rand.Rand, count *int) (what string, got, want api.Errno) {
	switch r.IntN(12) {
	case 0:
		b.open(t)
		return "Open", api.OK, api.OK
	case 1:
		b.plain.d.Sync(seg(b.plain.numbers[len(b.plain.numbers)-1]))
		return "Sync", b.l.Sync(), api.OK
	case 2:
		var l []string
		for range r.IntN(5) {
			l = append(l, drawnRecord(r, count))
		}
		return "Replace", b.l.Replace(recs(l...)), b.plain.replace(l)
	}
	rec := drawnRecord(r, count)
	return "Append", b.l.Append([]byte(rec)), b.plain.add(rec)
}

// P7.2 to P7.6: whatever is called, on whatever disk, both logs answer the same, and their disks have the same.
func TestDrawn(t *testing.T) {
	for seed := range uint64(60) {
		r := rand.New(rand.NewPCG(seed, 77))
		d, l := made(t, shot{})
		b, count := &both{d, l, plain{d.Copy(), []int{1}}}, 0
		for step := range 80 {
			what, got, want := "a fault", api.OK, api.OK
			if r.IntN(4) > 0 {
				what, got, want = b.change(t, r, &count)
			} else if b.fault(r) {
				b.open(t)
			}
			if got != want {
				t.Fatalf("seed %d, step %d: %s answers %d, not %d", seed, step, what, got, want)
			}
			has(t, b.d, taken(t, b.plain.d))
			segments(t, b.d, b.l, b.plain.numbers...)
			if t.Failed() {
				t.Fatalf("seed %d, step %d: %s", seed, step, what)
			}
		}
	}
}

// From arguments alone: the same calls leave the same bytes, whichever disk they are made on.
func TestTwice(t *testing.T) {
	var shots []shot
	for range 2 {
		d, l := made(t, shot{})
		run(d, l, drawnCalls(rand.New(rand.NewPCG(1, 78)), 60))
		shots = append(shots, taken(t, d))
	}
	if !maps.Equal(shots[0], shots[1]) {
		t.Errorf("two runs have left something else:%s\nand%s", shots[0].told(shots[1]), shots[1].told(shots[0]))
	}
}
