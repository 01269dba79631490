package files_test

import (
	"cmp"
	"math/rand/v2"
	"slices"
	"strings"
	"testing"

	"cicerone/api"
	"cicerone/files"
)

// plainFile is a file: what of it is synced, and what is not.
type plainFile struct{ name, synced, loose string }

// size is how many bytes it has.
func (f plainFile) size() int { return len(f.synced) + len(f.loose) }

// plain is a second disk, that is told by the chapter's words alone: files in a list, bytes as texts.
type plain struct {
	l            []plainFile
	room         int
	short, fuse  int
	waits, burns bool
}

// find is where a file stands, or -1.
func (p *plain) find(name string) int {
	return slices.IndexFunc(p.l, func(f plainFile) bool { return f.name == name })
}

// used is the bytes of all files.
func (p *plain) used() int {
	sum := 0
	for _, f := range p.l {
		sum += f.size()
	}
	return sum
}

// can tells whether a text can be a name.
func can(name string) bool {
	return name != "" && len(name) <= 32 && strings.Trim(name, "abcdefghijklmnopqrstuvwxyz0123456789-.") == "" && !strings.Contains(name, " ")
}

// dead counts a change, and tells whether the disk has stopped.
func (p *plain) dead() bool {
	if p.burns && p.fuse == 0 {
		return true
	}
	p.fuse--
	return false
}

// appendTo is Append.
func (p *plain) appendTo(name, b string) (int, api.Errno) {
	if !can(name) {
		return 0, api.ErrArg
	}
	if p.dead() {
		return 0, api.ErrDead
	}
	e := api.OK
	if p.waits && len(b) > p.short {
		b, e = b[:p.short], api.ErrPart
	}
	p.waits = false
	at, size := p.find(name), 0
	if at >= 0 {
		size = p.l[at].size()
	}
	if size+len(b) > api.MaxFile || p.used()+len(b) > p.room {
		return 0, api.ErrFull
	}
	if at < 0 {
		at = len(p.l)
		p.l = append(p.l, plainFile{name: name})
	}
	p.l[at].loose += b
	return len(b), e
}

// sync is Sync.
func (p *plain) sync(name string) api.Errno {
	if p.dead() {
		return api.ErrDead
	}
	at := p.find(name)
	if at < 0 {
		return api.ErrFile
	}
	p.l[at].synced, p.l[at].loose = p.l[at].synced+p.l[at].loose, ""
	return api.OK
}

// cut is Cut.
func (p *plain) cut(name string, n int) api.Errno {
	at := p.find(name)
	if n < 0 || at >= 0 && n > p.l[at].size() {
		return api.ErrArg
	}
	if p.dead() {
		return api.ErrDead
	}
	if at < 0 {
		return api.ErrFile
	}
	f := &p.l[at]
	if n <= len(f.synced) {
		f.synced, f.loose = f.synced[:n], ""
	} else {
		f.loose = f.loose[:n-len(f.synced)]
	}
	return api.OK
}

// rename is Rename.
func (p *plain) rename(from, to string) api.Errno {
	if !can(to) {
		return api.ErrArg
	}
	if p.dead() {
		return api.ErrDead
	}
	at := p.find(from)
	if at < 0 {
		return api.ErrFile
	}
	f := p.l[at]
	f.name = to
	p.l = slices.DeleteFunc(p.l, func(x plainFile) bool { return x.name == from || x.name == to })
	p.l = append(p.l, f)
	return api.OK
}

// remove is Remove.
func (p *plain) remove(name string) api.Errno {
	if p.dead() {
		return api.ErrDead
	}
	at := p.find(name)
	if at < 0 {
		return api.ErrFile
	}
	p.l = slices.Delete(p.l, at, at+1)
	return api.OK
}

// crash is Crash.
func (p *plain) crash(l []api.Tail) {
	for i := range p.l {
		f := &p.l[i]
		kept := ""
		if at := slices.IndexFunc(l, func(t api.Tail) bool { return t.Name == f.name }); at >= 0 && l[at].Keep > 0 {
			kept = f.loose[:min(l[at].Keep, len(f.loose))]
			if l[at].Turn && kept != "" {
				last := len(kept) - 1
				kept = kept[:last] + string([]byte{kept[last] ^ 1})
			}
		}
		f.synced, f.loose = f.synced+kept, ""
	}
	p.waits, p.burns = false, false
}

// told is what a disk with the same tells.
func (p *plain) told() string {
	l := slices.SortedFunc(slices.Values(p.l), func(a, b plainFile) int { return cmp.Compare(a.name, b.name) })
	s := ""
	for _, f := range l {
		s += f.name + "=" + f.synced + "|" + f.loose + " "
	}
	return strings.TrimSpace(s)
}

// clone is another one with the same.
func (p *plain) clone() *plain {
	c := *p
	c.l = slices.Clone(p.l)
	return &c
}

// drawnText is some bytes, seldom many.
func drawnText(r *rand.Rand) string {
	b := make([]byte, r.IntN(6))
	for i := range b {
		b[i] = 'A' + byte(r.IntN(26))
	}
	return string(b)
}

// drawnTails are some tails, of names that are there and of others.
func drawnTails(r *rand.Rand, name func() string) []api.Tail {
	var l []api.Tail
	for range r.IntN(6) {
		l = append(l, api.Tail{Name: name(), Keep: r.IntN(8) - 2, Turn: r.IntN(2) == 0})
	}
	return l
}

// change has both disks go through one drawn change, and is what each answers.
func change(r *rand.Rand, d *files.Disk, p *plain, name func() string) (what string, got, want [2]int) {
	a, b := name(), name()
	switch r.IntN(5) {
	case 0:
		text := drawnText(r)
		n, e := d.Append(a, []byte(text))
		m, f := p.appendTo(a, text)
		return "Append " + a + " " + text, [2]int{n, int(e)}, [2]int{m, int(f)}
	case 1:
		return "Sync " + a, [2]int{int(d.Sync(a))}, [2]int{int(p.sync(a))}
	case 2:
		n := r.IntN(10) - 1
		return "Cut " + a, [2]int{int(d.Cut(a, n))}, [2]int{int(p.cut(a, n))}
	case 3:
		return "Rename " + a + " " + b, [2]int{int(d.Rename(a, b))}, [2]int{int(p.rename(a, b))}
	}
	return "Remove " + a, [2]int{int(d.Remove(a))}, [2]int{int(p.remove(a))}
}

// fault has both disks go through something that is no change.
func fault(r *rand.Rand, d *files.Disk, p *plain, name func() string) (what string, got, want [2]int) {
	switch n := r.IntN(9) - 1; r.IntN(4) {
	case 0:
		what, got[0] = "Short", int(d.Short(n))
		if n >= 0 {
			p.short, p.waits = n, true
			return what, got, want
		}
	case 1:
		what, got[0] = "Fuse", int(d.Fuse(n))
		if n >= 0 {
			p.fuse, p.burns = n, true
			return what, got, want
		}
	case 2:
		n = n*12 + r.IntN(12)
		what, got[0] = "Room", int(d.Room(n))
		if n >= 0 {
			p.room = n
			return what, got, want
		}
	case 3:
		l := drawnTails(r, name)
		p.crash(l)
		return "Crash", [2]int{int(d.Crash(l))}, want
	}
	return what, got, [2]int{int(api.ErrArg)}
}

// P6.1 to P6.4: whatever is called, both disks answer the same and have the same; a copy goes on as the disk that it was made of.
func TestDrawn(t *testing.T) {
	for seed := range uint64(300) {
		r := rand.New(rand.NewPCG(seed, 6))
		list := []string{"a", "b", "c-1", "d.log", "a", "b", strings.Repeat("n", 32), strings.Repeat("n", 33), "", "A", "a b"}
		name := func() string { return list[r.IntN(len(list))] }
		d, p := fresh(t, 40), &plain{room: 40}
		was, wasPlain := d, p
		for step := range 200 {
			what, got, want := "", [2]int{}, [2]int{}
			if r.IntN(4) > 0 {
				what, got, want = change(r, d, p, name)
			} else {
				what, got, want = fault(r, d, p, name)
			}
			if got != want {
				t.Fatalf("seed %d, step %d: %s answers %v, not %v", seed, step, what, got, want)
			}
			if got := told(t, d); got != p.told() {
				t.Fatalf("seed %d, step %d: behind %s the disk has %q, not %q", seed, step, what, got, p.told())
			}
			if r.IntN(10) == 0 {
				if got := told(t, was); got != wasPlain.told() {
					t.Fatalf("seed %d, step %d: the disk that was copied has %q, not %q", seed, step, got, wasPlain.told())
				}
				was, wasPlain = d, p
				d, p = d.Copy(), p.clone()
			}
		}
	}
}

// P6.5: what is synced of a file stays as it is, and synced, behind all calls but Cut, Remove and Rename of it.
func TestSyncedStays(t *testing.T) {
	for seed := range uint64(300) {
		r := rand.New(rand.NewPCG(seed, 65))
		list := []string{"a", "b", "c"}
		name := func() string { return list[r.IntN(len(list))] }
		d := fresh(t, 1+r.IntN(60))
		kept := map[string]string{}
		for step := range 200 {
			n, other, taken := name(), name(), []string{}
			switch r.IntN(14) {
			case 0, 1, 2, 3:
				d.Append(n, []byte(drawnText(r)))
			case 4, 5:
				d.Sync(n)
			case 6:
				d.Crash(drawnTails(r, name))
			case 7:
				d.Short(r.IntN(5))
			case 8:
				d.Room(r.IntN(60))
			case 9:
				d.Fuse(r.IntN(12))
			case 10:
				d = d.Copy()
			case 11:
				if d.Cut(n, r.IntN(8)) == api.OK {
					taken = []string{n}
				}
			case 12:
				if d.Rename(n, other) == api.OK {
					taken = []string{n, other}
				}
			case 13:
				if d.Remove(n) == api.OK {
					taken = []string{n}
				}
			}
			for _, n := range list {
				b, _ := d.Read(n)
				synced := string(b[:d.Synced(n)])
				if !slices.Contains(taken, n) && !strings.HasPrefix(synced, kept[n]) {
					t.Fatalf("seed %d, step %d: of %s %q was synced, now %q", seed, step, n, kept[n], synced)
				}
				kept[n] = synced
			}
		}
	}
}

// From arguments alone: the same calls answer the same, whichever disk they are made on.
func TestAgain(t *testing.T) {
	run := func() string {
		r := rand.New(rand.NewPCG(1, 66))
		d := fresh(t, 200)
		s := ""
		for range 300 {
			n := string([]byte{'a' + byte(r.IntN(26))})
			d.Append(n, []byte(drawnText(r)))
			if r.IntN(40) == 0 {
				d.Crash([]api.Tail{{Name: n, Keep: 2, Turn: true}})
			}
			s += told(t, d) + "\n"
		}
		return s
	}
	if run() != run() {
		t.Error("two runs have told something else")
	}
}
