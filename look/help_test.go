package look_test

import (
	"fmt"
	"math"
	"slices"
	"strings"
	"testing"

	"cicerone/api"
	"cicerone/entry"
	"cicerone/files"
	"cicerone/look"
	"cicerone/name"
	"cicerone/store"
)

// textType is a type whose data are any bytes.
const textType = 777

// far is when sets of the tests expire, if nothing else is said.
const far = 1000

// times are ordinary times at which such sets are fresh, and those that count as 0.
var times = []int{0, 1, far - 1, -1, math.MinInt}

// noNames are texts that are no name.
var noNames = []string{"", ".", "a.", "\x01", "\x01a", "\x01a\x00\x00", "\x00\x00", "\x40" + strings.Repeat("x", 64) + "\x00", strings.Repeat("\x01x", 127) + "\x00\x00", strings.Repeat("\x01x", 128) + "\x00", "\xc0\x00"}

// named is the name of a text.
func named(text string) string {
	n, e := name.Parse(text)
	if e != api.OK {
		panic("no name: " + text)
	}
	return n
}

// great is a name with great letters alone: the lengths of labels are below all letters.
func great(n string) string { return strings.ToUpper(n) }

// asked is a question for a text's name.
func asked(text string, t int) api.Question {
	return api.Question{Name: named(text), Type: t, Class: api.ClassIN}
}

// set is one of RankAnswer that has data.
func set(owner string, t int, datas ...string) api.Set {
	s := api.Set{Name: named(owner), Type: t, Class: api.ClassIN, Rank: api.RankAnswer, Expires: far}
	for _, data := range datas {
		s.Datas = append(s.Datas, []byte(data))
	}
	return s
}

// text, host and cname are such sets of these types, ns is one of RankRefer.
func text(owner, data string) api.Set { return set(owner, textType, data) }

func host(owner string, addrs ...string) api.Set { return set(owner, api.TypeA, addrs...) }

func cname(owner string, to ...string) api.Set { return set(owner, api.TypeCNAME, names(to)...) }

func ns(owner string, to ...string) api.Set {
	return with(set(owner, api.TypeNS, names(to)...), func(s *api.Set) { s.Rank = api.RankRefer })
}

// names is the names of texts.
func names(texts []string) []string {
	var l []string
	for _, text := range texts {
		l = append(l, named(text))
	}
	return l
}

// none says that a name has nothing of a type, nothing that it is not there.
func none(owner string, t int) api.Set {
	return with(set(owner, t, "\x00\x00"+strings.Repeat("\x00\x00\x00\x05", 5)), func(s *api.Set) { s.Kind, s.Zone = api.SetNone, "\x00" })
}

func nothing(owner string) api.Set {
	return with(none(owner, 0), func(s *api.Set) { s.Kind = api.SetNothing })
}

// with is a set, changed; ranked is one of another rank, until one that expires at another time, classed one of another class.
func with(s api.Set, change func(s *api.Set)) api.Set {
	change(&s)
	return s
}

func ranked(rank int, s api.Set) api.Set {
	s.Rank = rank
	return s
}

func until(expires int, s api.Set) api.Set {
	s.Expires = expires
	return s
}

func classed(class int, s api.Set) api.Set {
	s.Class = class
	return s
}

// stored is a store that has these sets, put in this order at the time 0.
func stored(t *testing.T, l ...api.Set) *store.Store {
	t.Helper()
	d, e := files.New(1 << 40)
	if e != api.OK {
		t.Fatal(e)
	}
	s, e := store.Open(d, 0, 1<<40)
	if e != api.OK {
		t.Fatal(e)
	}
	for _, x := range l {
		if e := s.Put(x, 0); e != api.OK {
			t.Fatalf("Put of %v is %d", x, e)
		}
	}
	return s
}

// unmade are stores that no call made.
func unmade() []*store.Store { return []*store.Store{nil, {}} }

// sameFound compares what was found.
func sameFound(a, b api.Found) bool {
	return a.Kind == b.Kind && slices.EqualFunc(a.Chain, b.Chain, entry.Same) && entry.Same(a.Last, b.Last) && a.Need == b.Need
}

// finds asks what a store has for a question.
func finds(t *testing.T, s *store.Store, q api.Question, now int, want api.Found) {
	t.Helper()
	if got := look.Find(s, q, now); !sameFound(got, want) {
		t.Errorf("Find(%q, %d, %d; %d) is %s, not %s", q.Name, q.Type, q.Class, now, told(got), told(want))
	}
}

// told is a found thing as a text.
func told(f api.Found) string { return fmt.Sprintf("%+q", fmt.Sprintf("%v", f)) }

// ends is what is found at the end of a chain, needs what is needed there.
func ends(kind int, last api.Set, chain ...api.Set) api.Found {
	return api.Found{Kind: kind, Chain: chain, Last: last}
}

func needs(q api.Question, chain ...api.Set) api.Found {
	return api.Found{Kind: api.FoundNeed, Chain: chain, Need: q}
}

// loop is what is found where nothing can be.
var loop = api.Found{Kind: api.FoundLoop}

// nears asks for the nearest zone of a name, and its servers, all told as texts.
func nears(t *testing.T, s *store.Store, n string, now int, zone string, servers ...string) {
	t.Helper()
	p, ok := look.Near(s, named(n), now)
	if !ok || p.Zone != named(zone) || !slices.Equal(p.Names, names(servers)) {
		t.Errorf("Near(%q; %d) is %q, %t, not %q, %q", n, now, p, ok, zone, servers)
	}
}

// lonely asks that no zone is near.
func lonely(t *testing.T, s *store.Store, n string, now int) {
	t.Helper()
	if p, ok := look.Near(s, n, now); ok || p.Zone != "" || len(p.Names) != 0 {
		t.Errorf("Near(%q; %d) is %q, %t", n, now, p, ok)
	}
}

// leads asks for a name's addresses.
func leads(t *testing.T, s *store.Store, n string, now int, want ...int) {
	t.Helper()
	if got := look.Addrs(s, n, now); !slices.Equal(got, want) {
		t.Errorf("Addrs(%q; %d) is %v, not %v", n, now, got, want)
	}
}
