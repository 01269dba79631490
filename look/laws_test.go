package look_test

import (
	"encoding/binary"
	"math/rand/v2"
	"slices"
	"testing"

	"cicerone/api"
	"cicerone/entry"
	"cicerone/look"
	"cicerone/name"
	"cicerone/rdata"
	"cicerone/store"
)

// plain is a second look, by the chapter's words: it goes through all sets that are fresh.
type plain []api.Set

// plainly is that of a store, at a time that is below no set's limits.
func plainly(s *store.Store, now int) plain {
	return slices.DeleteFunc(s.Sets(), func(x api.Set) bool { return x.Expires <= now })
}

// lookup is the set of a key, else that which says that there is no such name.
func (p plain) lookup(n string, t, class int) (api.Set, bool) {
	for _, kind := range []int{t, 0} {
		for _, x := range p {
			if name.Same(x.Name, n) && x.Type == kind && x.Class == class {
				return x, true
			}
		}
	}
	return api.Set{}, false
}

func (p plain) find(q api.Question) api.Found {
	if !name.Can(q.Name) || q.Type < 1 || q.Type > 65535 {
		return loop
	}
	f := api.Found{}
	for {
		if x, ok := p.lookup(q.Name, q.Type, q.Class); ok && x.Rank == api.RankAnswer {
			f.Kind, f.Last = []int{api.FoundData, api.FoundNone, api.FoundNothing}[x.Kind], x
			return f
		}
		x, ok := p.lookup(q.Name, api.TypeCNAME, q.Class)
		if q.Type == api.TypeCNAME || !ok || x.Kind != api.SetData || x.Rank != api.RankAnswer {
			f.Kind, f.Need = api.FoundNeed, q
			return f
		}
		if len(f.Chain) == 8 {
			return loop
		}
		f.Chain = append(f.Chain, x)
		q.Name = string(x.Datas[0])
	}
}

func (p plain) near(n string) (api.Place, bool) {
	if !name.Can(n) {
		return api.Place{}, false
	}
	for labels := name.Count(n); labels >= 0; labels-- {
		zone := name.Tail(n, labels)
		if x, ok := p.lookup(zone, api.TypeNS, 1); ok && x.Kind == api.SetData && x.Type == api.TypeNS {
			place := api.Place{Zone: zone}
			for _, data := range x.Datas {
				place.Names = append(place.Names, string(data))
			}
			return place, true
		}
	}
	return api.Place{}, false
}

func (p plain) addrs(n string) []int {
	x, ok := p.lookup(n, api.TypeA, 1)
	if !ok || x.Kind != api.SetData {
		return nil
	}
	var l []int
	for _, data := range x.Datas {
		l = append(l, int(binary.BigEndian.Uint32(data)))
	}
	return l
}

// drawing draws sets and questions.
type drawing struct{ *rand.Rand }

// one is one of some.
func one[T any](d drawing, l ...T) T { return l[d.IntN(len(l))] }

// name is one of few, seldom one that is none.
func (d drawing) name() string {
	if d.IntN(60) == 0 {
		return one(d, noNames...)
	}
	n := "\x00"
	if d.IntN(9) > 0 {
		n = one(d, "\x01a", "\x01b", "\x01c", "\x01d", "\x01e", "\x01f", "\x01g", "\x01A") + n
	}
	for d.IntN(5) > 3 {
		n = one(d, "\x01a", "\x01b") + n
	}
	return n
}

// good is one that is a name.
func (d drawing) good() string {
	for {
		if n := d.name(); name.Can(n) {
			return n
		}
	}
}

// set is one that can be kept.
func (d drawing) set() api.Set {
	s := api.Set{Name: d.good(), Type: one(d, 1, 2, 5, 5, 5, textType), Class: one(d, 1, 1, 1, 1, 1, 1, 3), Rank: one(d, 1, 2, 3, 3, 3, 3), Expires: 1 + d.IntN(60)}
	switch d.IntN(10) {
	case 0:
		s.Kind = api.SetNone
	case 1:
		s.Kind, s.Type = api.SetNothing, 0
	}
	if s.Kind != api.SetData {
		s.Zone, s.Datas = "\x00", none(".", 1).Datas
		return s
	}
	for range 1 + d.IntN(3) {
		data := one(d, "1234", "\x00\x00\x00\x01", "\xff\x00\x00\x00")
		if s.Type == api.TypeNS || s.Type == api.TypeCNAME {
			data = d.good()
		}
		s.Datas = append(s.Datas, []byte(data))
	}
	return s
}

// question is a drawn one.
func (d drawing) question() api.Question {
	return api.Question{Name: d.name(), Type: one(d, 1, 1, 1, 2, 5, textType, textType, 65535, 0, 65536), Class: one(d, 1, 1, 1, 1, 3, 0, -1)}
}

// stands asks that what was found stands in the store, and is fresh: P19.4.
func stands(t *testing.T, s *store.Store, now int, l ...api.Set) {
	t.Helper()
	for _, x := range l {
		if !slices.ContainsFunc(s.Sets(), func(y api.Set) bool { return entry.Same(x, y) }) || x.Expires <= now {
			t.Fatalf("%v does not stand in the store at %d", x, now)
		}
	}
}

// P19.1 to P19.4: drawn stores, held against the second look.
func TestDrawn(t *testing.T) {
	d := drawing{rand.New(rand.NewPCG(19, 1))}
	kinds, chains, places, addresses := map[int]int{}, 0, 0, 0
	for range 1500 {
		var l []api.Set
		for range d.IntN(25) {
			l = append(l, d.set())
		}
		s := stored(t, l...)
		for range 50 {
			now := one(d, 0, d.IntN(62))
			p := plainly(s, now)
			q := d.question()
			want := p.find(q)
			finds(t, s, q, now, want)
			stands(t, s, now, want.Chain...)
			if want.Kind < api.FoundNeed {
				stands(t, s, now, want.Last)
			}
			kinds[want.Kind]++
			if len(want.Chain) > 1 {
				chains++
			}
			n := d.name()
			if place, ok := p.near(n); ok {
				places++
				if got, ok := look.Near(s, n, now); !ok || got.Zone != place.Zone || !slices.Equal(got.Names, place.Names) {
					t.Errorf("Near(%q; %d) is %q, %t, not %q", n, now, got, ok, place)
				}
			} else {
				lonely(t, s, n, now)
			}
			n = d.name()
			leads(t, s, n, now, p.addrs(n)...)
			addresses += len(p.addrs(n))
			if t.Failed() {
				t.Fatalf("at %d the store has %v", now, s.Sets())
			}
		}
	}
	if kinds[1] < 300 || kinds[2] < 300 || kinds[3] < 300 || kinds[4] < 300 || kinds[5] < 300 || chains < 300 || places < 300 || addresses < 300 {
		t.Errorf("of kinds %v, %d chains, %d places, %d addresses", kinds, chains, places, addresses)
	}
}

// P19.4: the names that Near tells are those of a set that is there, the addresses of Addrs too.
func TestStands(t *testing.T) {
	s := held(t)
	p, _ := look.Near(s, named("x.a."), 0)
	x, ok := s.Lookup(p.Zone, api.TypeNS, api.ClassIN, 0)
	if !ok || len(p.Names) != len(x.Datas) {
		t.Fatalf("%q, but the store has %v", p, x)
	}
	for i, data := range x.Datas {
		if l := rdata.Names(api.TypeNS, data); l[0] != p.Names[i] {
			t.Errorf("%q, but the store has %q", p.Names, x.Datas)
		}
	}
	x, _ = s.Lookup(named("a."), api.TypeA, api.ClassIN, 0)
	for i, addr := range look.Addrs(s, named("a."), 0) {
		if uint32(addr) != binary.BigEndian.Uint32(x.Datas[i]) {
			t.Errorf("%d, but the store has %q", addr, x.Datas)
		}
	}
}
