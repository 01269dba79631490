package iterate_test

import (
	"fmt"
	"slices"
	"strings"
	"testing"

	"cicerone/api"
	"cicerone/entry"
	"cicerone/files"
	"cicerone/iterate"
	"cicerone/name"
	"cicerone/rate"
	"cicerone/rdata"
	"cicerone/store"
)

// textType is a type whose data are any bytes.
const textType = 777

// far is when sets expire that were put ahead, if nothing else is said; ttl is that of records.
const (
	far = 10000
	ttl = 300
)

// noNames are texts that are no name.
var noNames = []string{"", ".", "a.", "\x01", "\x01a", "\x01a\x00\x00", "\x00\x00", "\x40" + strings.Repeat("x", 64) + "\x00", strings.Repeat("\x01x", 128) + "\x00", "\xc0\x00"}

// named is the name of a text.
func named(text string) string {
	n, e := name.Parse(text)
	if e != api.OK {
		panic("no name: " + text)
	}
	return n
}

// asked is a question for a text's name.
func asked(text string, t int) api.Question {
	return api.Question{Name: named(text), Type: t, Class: api.ClassIN}
}

// address is the data of a TypeA, of a number below 256.
func address(addr int) string { return string([]byte{0, 0, 0, byte(addr)}) }

// record is one of ClassIN; host, ns, cname, text and soa are such ones of these types.
func record(owner string, t int, data string) api.RR {
	return api.RR{Name: named(owner), Type: t, Class: api.ClassIN, TTL: ttl, Data: []byte(data)}
}

func host(owner string, addr int) api.RR { return record(owner, api.TypeA, address(addr)) }

func ns(owner, to string) api.RR { return record(owner, api.TypeNS, named(to)) }

func cname(owner, to string) api.RR { return record(owner, api.TypeCNAME, named(to)) }

func text(owner, data string) api.RR { return record(owner, textType, data) }

func soa(owner string, minimum int) api.RR {
	data, e := rdata.Make(api.SOA{MName: named("m."), RName: named("r."), Serial: 7, Minimum: minimum})
	if e != api.OK {
		panic("no SOA")
	}
	return record(owner, api.TypeSOA, string(data))
}

// lasting, classed and great are a record of another TTL, of another class, of a name in great letters.
func lasting(ticks int, r api.RR) api.RR {
	r.TTL = ticks
	return r
}

func classed(class int, r api.RR) api.RR {
	r.Class = class
	return r
}

func great(r api.RR) api.RR {
	r.Name = strings.ToUpper(r.Name)
	return r
}

// links is aliases that lead from 1 to the name behind the last one, in a zone.
func links(many int, zone string) []api.RR {
	var l []api.RR
	for i := range many {
		l = append(l, cname(link(i+1, zone), link(i+2, zone)))
	}
	return l
}

// link is the name of a number in a chain.
func link(i int, zone string) string { return fmt.Sprintf("l%d.%s", i, zone) }

// setOf is the set that records with the same name and type come to, if these came at the time 0 and for long.
func setOf(rank int, l ...api.RR) api.Set {
	s := api.Set{Name: l[0].Name, Type: l[0].Type, Class: l[0].Class, Rank: rank, Expires: far}
	for _, r := range l {
		s.Datas = append(s.Datas, r.Data)
	}
	return s
}

// servers, addrs and alias are sets that were heard ahead: a zone's servers, a name's addresses, where a name leads.
func servers(owner string, to ...string) api.Set {
	var l []api.RR
	for _, n := range to {
		l = append(l, ns(owner, n))
	}
	return setOf(api.RankRefer, l...)
}

func addrs(owner string, l ...int) api.Set {
	var rrs []api.RR
	for _, addr := range l {
		rrs = append(rrs, host(owner, addr))
	}
	return setOf(api.RankGlue, rrs...)
}

func alias(owner, to string) api.Set { return setOf(api.RankAnswer, cname(owner, to)) }

// data is a set of RankAnswer, none and nothing say that there is no such.
func data(owner, what string) api.Set { return setOf(api.RankAnswer, text(owner, what)) }

func none(owner string, t int) api.Set {
	s := setOf(api.RankAnswer, soa(".", 5))
	s.Name, s.Type, s.Kind, s.Zone = named(owner), t, api.SetNone, "\x00"
	return s
}

func nothing(owner string) api.Set {
	s := none(owner, 0)
	s.Kind = api.SetNothing
	return s
}

// ranked is a set of another rank, until one that expires at another time.
func ranked(rank int, s api.Set) api.Set {
	s.Rank = rank
	return s
}

func until(expires int, s api.Set) api.Set {
	s.Expires = expires
	return s
}

// stored is a store with room for so many bytes that has these sets, put at the time 0.
func stored(t *testing.T, most int, l ...api.Set) *store.Store {
	t.Helper()
	d, e := files.New(1 << 40)
	if e != api.OK {
		t.Fatal(e)
	}
	s, e := store.Open(d, 0, most)
	if e != api.OK {
		t.Fatal(e)
	}
	for _, x := range l {
		if e := s.Put(x, 0); e != api.OK {
			t.Fatalf("Put of %v is %d", x, e)
		}
	}
	return s
}

// sameFound, sameWant and sameAccept compare all fields.
func sameFound(a, b api.Found) bool {
	return a.Kind == b.Kind && slices.EqualFunc(a.Chain, b.Chain, entry.Same) && entry.Same(a.Last, b.Last) && a.Need == b.Need
}

func sameWant(a, b api.Want) bool {
	return a.Kind == b.Kind && a.Addr == b.Addr && a.Zone == b.Zone && a.Question == b.Question && sameFound(a.Found, b.Found)
}

func sameAccept(a, b api.Accept) bool {
	return a.At == b.At && a.TTL == b.TTL && a.Zone == b.Zone && entry.Same(a.Set, b.Set)
}

// work is a task, and what it is handed.
type work struct {
	t     *testing.T
	task  *iterate.Task
	store *store.Store
	table *rate.Table
	now   int
	// asks counts those that were told.
	asked int
}

// begun is a task of a question with hints, and a store that has these sets.
func begun(t *testing.T, q api.Question, hints []api.RR, l ...api.Set) *work {
	t.Helper()
	task, e := iterate.New(q, hints)
	if e != api.OK || task == nil {
		t.Fatalf("New(%v) is %d", q, e)
	}
	w := &work{t: t, task: task, store: stored(t, 1<<40, l...), table: rate.New()}
	w.is(q)
	return w
}

// hinted is hints of these addresses.
func hinted(l ...int) []api.RR {
	var rrs []api.RR
	for _, addr := range l {
		rrs = append(rrs, host("hint.", addr))
	}
	return rrs
}

// is asks what the task tells of itself.
func (w *work) is(q api.Question) {
	w.t.Helper()
	if got := w.task.Question(); got != q || w.task.Work() != w.asked {
		w.t.Errorf("Question is %v, not %v; Work is %d, not %d", got, q, w.task.Work(), w.asked)
	}
}

// put puts sets into the store at the time 0.
func (w *work) put(l ...api.Set) {
	w.t.Helper()
	for _, x := range l {
		if e := w.store.Put(x, 0); e != api.OK {
			w.t.Fatalf("Put of %v is %d", x, e)
		}
	}
}

// wants asks what the task wants now, with a draw; Next changes no store.
func (w *work) wants(draw int, want api.Want) {
	w.t.Helper()
	was := w.store.Sets()
	if got := w.task.Next(w.store, w.table, draw, w.now); !sameWant(got, want) {
		w.t.Fatalf("Next(%d; %d) is %+q, not %+q", draw, w.now, fmt.Sprint(got), fmt.Sprint(want))
	}
	if want.Kind == api.WantAsk {
		w.asked++
	}
	w.is(w.task.Question())
	if !slices.EqualFunc(w.store.Sets(), was, entry.Same) {
		w.t.Errorf("Next has put %v", w.store.Sets())
	}
}

// asks asks for a WantAsk, with the draw 0.
func (w *work) asks(addr int, zone string, q api.Question) {
	w.t.Helper()
	w.draws(0, addr, zone, q)
}

// draws asks for a WantAsk, with a draw.
func (w *work) draws(draw, addr int, zone string, q api.Question) {
	w.t.Helper()
	w.wants(draw, api.Want{Kind: api.WantAsk, Addr: addr, Zone: named(zone), Question: q})
}

// loses asks for a WantAsk, and tells that it is lost.
func (w *work) loses(addr int, zone string, q api.Question) {
	w.t.Helper()
	w.asks(addr, zone, q)
	w.lost(api.OK)
	w.lost(api.ErrArg)
}

// lost tells that the last WantAsk is lost.
func (w *work) lost(want api.Errno) {
	w.t.Helper()
	if e := w.task.Lost(); e != want {
		w.t.Errorf("Lost is %d, not %d", e, want)
	}
}

// ends asks for an end, and for that again, whatever the task is handed later.
func (w *work) ends(want api.Want) {
	w.t.Helper()
	w.wants(0, want)
	w.wants(7, want)
	other := &work{t: w.t, task: w.task, store: stored(w.t, 1<<40), table: rate.New(), now: far, asked: w.asked}
	other.wants(0, want)
	w.wants(-1, want)
}

// fails asks for the end without an answer, done for one with it.
func (w *work) fails() {
	w.t.Helper()
	w.ends(api.Want{Kind: api.WantFail})
}

func (w *work) done(kind int, last api.Set, chain ...api.Set) {
	w.t.Helper()
	w.ends(api.Want{Kind: api.WantDone, Found: api.Found{Kind: kind, Chain: chain, Last: last}})
}

// hears tells of a message: the sets that are accepted, of a zone, which are put into the store, and nothing else.
func (w *work) hears(m api.Message, zone string, want ...api.Set) {
	w.t.Helper()
	second := stored(w.t, 1<<40)
	for _, x := range w.store.Sets() {
		second.Put(x, 0)
	}
	var accepts []api.Accept
	for _, x := range want {
		second.Put(x, w.now)
		accepts = append(accepts, api.Accept{At: w.now, TTL: x.Expires - w.now, Zone: named(zone), Set: x})
	}
	if got := w.task.Hear(w.store, m, w.now); !slices.EqualFunc(got, accepts, sameAccept) {
		w.t.Fatalf("Hear is %+q, not %+q", fmt.Sprint(got), fmt.Sprint(accepts))
	}
	if got := w.store.Sets(); !slices.EqualFunc(got, second.Sets(), entry.Same) {
		w.t.Errorf("the store has %v, not %v", got, second.Sets())
	}
	w.is(w.task.Question())
}

// hearsNothing tells of a message of which nothing is accepted.
func (w *work) hearsNothing(m api.Message) {
	w.t.Helper()
	w.hears(m, ".")
}

// answer is a message with AA, of these answers; referral one without it, of these authority and additional records.
func answer(l ...api.RR) api.Message {
	return api.Message{Header: api.Header{Response: true, AA: true}, Answers: l}
}

func referral(authority []api.RR, additional ...api.RR) api.Message {
	return api.Message{Header: api.Header{Response: true}, Authority: authority, Additional: additional}
}

// denial is a message with AA of this code, with aliases and an authority.
func denial(code int, authority []api.RR, aliases ...api.RR) api.Message {
	m := answer(aliases...)
	m.Code, m.Authority = code, authority
	return m
}

// came is the set that records with the same name and type come to, if they came at a time.
func came(now, rank int, l ...api.RR) api.Set {
	s := setOf(rank, l...)
	least := l[0].TTL
	for _, r := range l {
		least = min(least, r.TTL)
	}
	s.Expires = now + least
	return s
}

// denied is the set that says that there is nothing, by an SOA that came at a time.
func denied(now, kind int, q api.Question, r api.RR, ticks int) api.Set {
	s := api.Set{Name: q.Name, Type: q.Type, Class: q.Class, Rank: api.RankAnswer, Kind: kind, Expires: now + ticks, Zone: r.Name, Datas: [][]byte{r.Data}}
	if kind == api.SetNothing {
		s.Type = 0
	}
	return s
}
