package iterate_test

import (
	"fmt"
	"slices"
	"strings"
	"testing"
	"unsafe"

	"cicerone/api"
	"cicerone/iterate"
	"cicerone/wire"
)

// turn changes a text's bytes, which nobody but a test does. Texts of one byte are the language's own, and can't be changed.
func turn(s string) {
	if len(s) < 2 {
		return
	}
	b := unsafe.Slice(unsafe.StringData(s), len(s))
	for i := range b {
		b[i] ^= 0x15
	}
}

// roomy is records with room behind their list and data, of which each record has its own.
func roomy(l []api.RR) []api.RR {
	out := make([]api.RR, 0, len(l)+3)
	for _, r := range l {
		r.Data = append(make([]byte, 0, len(r.Data)+5), r.Data...)
		r.Name = strings.Clone(r.Name)
		out = append(out, r)
	}
	return out
}

// spoil changes all of a list of records, and the room behind it.
func spoil(l []api.RR) {
	for i, r := range l {
		turn(r.Name)
		for j := range r.Data[:cap(r.Data)] {
			r.Data[:cap(r.Data)][j] ^= 0x15
		}
		l[i].TTL++
	}
	clear(l[:cap(l)])
}

// spoilSet changes all of a set, the room behind its lists included.
func spoilSet(s api.Set) {
	turn(s.Name)
	turn(s.Zone)
	for _, data := range s.Datas {
		for i := range data[:cap(data)] {
			data[:cap(data)][i] ^= 0x15
		}
	}
	clear(s.Datas[:cap(s.Datas)])
}

// roomyMessage is a message of lists with room behind their ends.
func roomyMessage(m api.Message) api.Message {
	m.Questions = slices.Grow(slices.Clone(m.Questions), 3)
	m.Answers, m.Authority, m.Additional = roomy(m.Answers), roomy(m.Authority), roomy(m.Additional)
	return m
}

// untouched asks that a message is as it was, the room behind its lists included.
func untouched(t *testing.T, m, was api.Message) {
	t.Helper()
	if !wire.Same(m, was) {
		t.Errorf("the message has become %v", m)
	}
	for _, l := range [][]api.RR{m.Answers, m.Authority, m.Additional} {
		for _, r := range l[len(l):cap(l)] {
			if r.Name != "" || r.Data != nil {
				t.Errorf("behind the message's records stands %v", r)
			}
		}
		for _, r := range l {
			for _, b := range r.Data[len(r.Data):cap(r.Data)] {
				if b != 0 {
					t.Errorf("behind data stand %v", r.Data[:cap(r.Data)])
				}
			}
		}
	}
}

// Memory: the question and the hints are neither changed nor kept; what Question answers is not the task's.
func TestNewMemory(t *testing.T) {
	handed := asked("www.com.", textType)
	handed.Name = strings.Clone(handed.Name)
	hints := roomy(hinted(4, 5))
	k, _ := iterate.New(handed, hints)
	for i, r := range hints[:cap(hints)] {
		if i < 2 && (r.Name != named("hint.") || string(r.Data) != address(4+i)) || i >= 2 && r.Name != "" {
			t.Errorf("the hint %d has become %v", i, r)
		}
	}
	turn(handed.Name)
	spoil(hints)
	w := &work{t: t, task: k, store: stored(t, 1<<40), table: begun(t, q, nil).table}
	w.is(q)
	turn(k.Question().Name)
	w.is(q)
	w.asks(4, ".", q)
	turn(k.Question().Name)
	w.asks(5, ".", q)
	w.fails()
}

// Memory: a WantAsk that is changed changes neither what is heard, nor what was tried.
func TestAskMemory(t *testing.T) {
	w := begun(t, q, nil, servers("com.", "ns.com.", "a.net."), addrs("ns.com.", 5, 6))
	for i, addr := range []int{5, 6} {
		got := w.task.Next(w.store, w.table, 0, 0)
		if got.Addr != addr || got.Zone != named("com.") || got.Question != q {
			t.Fatalf("Next is %v", got)
		}
		w.asked++
		turn(got.Zone)
		turn(got.Question.Name)
		if i == 1 {
			w.hears(answer(cname("www.com.", "b.com."), text("b.net.", "y")), "com.", came(0, 3, cname("www.com.", "b.com.")))
		}
	}
	w.is(q)
	// So is what a further goal asks.
	w = begun(t, q, hinted(1, 2), servers("com.", "a.net."))
	for _, addr := range []int{1, 2} {
		got := w.task.Next(w.store, w.table, 0, 0)
		if got.Addr != addr || got.Question != asked("a.net.", 1) {
			t.Fatalf("Next is %v", got)
		}
		w.asked++
		turn(got.Question.Name)
	}
	w.asks(1, ".", q)
}

// Memory: what a WantDone tells is anew each time, and not the store's.
func TestDoneMemory(t *testing.T) {
	chain := []api.Set{alias("www.com.", "ab."), alias("ab.", "bc.")}
	last := setOf(3, text("bc.", "xx"), text("bc.", "yy"))
	w := begun(t, q, nil, chain[0], chain[1], last)
	want := api.Want{Kind: api.WantDone, Found: api.Found{Kind: api.FoundData, Chain: chain, Last: last}}
	for range 3 {
		got := w.task.Next(w.store, w.table, 0, 0)
		if !sameWant(got, want) {
			t.Fatalf("Next is %v", got)
		}
		for _, s := range append(got.Found.Chain, got.Found.Last) {
			spoilSet(s)
		}
		clear(got.Found.Chain[:cap(got.Found.Chain)])
	}
	begun(t, q, nil, w.store.Sets()...).done(api.FoundData, last, chain...)
	w = begun(t, asked("a.", 1), nil, nothing("a."))
	spoilSet(w.task.Next(w.store, w.table, 0, 0).Found.Last)
	w.done(api.FoundNothing, nothing("a."))
}

// memorable is messages of all kinds, as heard by com.'s server of www.com.
func memorable() []api.Message {
	return []api.Message{
		answer(text("www.com.", "xx"), text("www.com.", "yy"), text("net.", "z")),
		denial(api.CodeName, []api.RR{ns("com.", "a."), soa("com.", 60)}, cname("www.com.", "a.com."), cname("a.com.", "b.com.")),
		answer(cname("www.com.", "wWw.com.")),
		referral([]api.RR{soa("com.", 60), ns("www.com.", "ns.com."), ns("www.com.", "b.com.")}, host("b.com.", 6), host("ns.com.", 7), host("b.com.", 5)),
	}
}

// Memory: a message is neither changed nor kept.
func TestHearMemory(t *testing.T) {
	for _, was := range memorable() {
		m := roomyMessage(was)
		w, other := waiting(t, q), waiting(t, q)
		got, want := w.task.Hear(w.store, m, 0), other.task.Hear(other.store, was, 0)
		untouched(t, m, was)
		for _, l := range [][]api.RR{m.Answers, m.Authority, m.Additional} {
			spoil(l)
		}
		if len(got) == 0 || !slices.EqualFunc(got, want, sameAccept) {
			t.Errorf("with the message the accepts have become %v", got)
		}
		if fmt.Sprint(w.store.Sets()) != fmt.Sprint(other.store.Sets()) {
			t.Errorf("with the message the store has become %v", w.store.Sets())
		}
	}
}

// Memory: accepts share nothing with the store, or with one another, a circle's neither.
func TestAcceptMemory(t *testing.T) {
	for _, m := range memorable() {
		w, other := waiting(t, q), waiting(t, q)
		got, want := w.task.Hear(w.store, m, 0), other.task.Hear(other.store, m, 0)
		was := fmt.Sprint(other.store.Sets())
		for i := range got {
			if !slices.EqualFunc(got[i:], want[i:], sameAccept) {
				t.Fatalf("with an accept another one has become %v", got[i:])
			}
			turn(got[i].Zone)
			spoilSet(got[i].Set)
		}
		clear(got[:cap(got)])
		if fmt.Sprint(w.store.Sets()) != was {
			t.Errorf("with the accepts the store has become %v", w.store.Sets())
		}
		if x, y := w.task.Next(w.store, w.table, 0, 0), other.task.Next(other.store, other.table, 0, 0); !sameWant(x, y) {
			t.Errorf("with the accepts Next is %v, not %v", x, y)
		}
	}
}
