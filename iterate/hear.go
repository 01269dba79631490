package iterate

import (
	"slices"
	"strings"

	"cicerone/api"
	"cicerone/name"
	"cicerone/rdata"
	"cicerone/rrset"
	"cicerone/store"
)

// ear hears a reply to what was asked of a zone's server, and notes what it accepts.
type ear struct {
	store    *store.Store
	zone     string
	question api.Question
	now      int
	accepts  []api.Accept
}

// Hear takes a server's reply to what it wanted last: what was accepted.
func (t *Task) Hear(s *store.Store, m api.Message, now int) []api.Accept {
	if !t.made() || !isStore(s) || !t.waits {
		return nil
	}
	t.waits = false
	e := &ear{store: s, zone: t.asked.Zone, question: t.asked.Question, now: now}
	switch {
	case m.Opcode != 0 || m.TC || m.Code != api.CodeOK && m.Code != api.CodeName:
	case m.AA:
		e.answer(m)
	case m.Code == api.CodeOK && len(m.Answers) == 0:
		e.refer(m)
	}
	return e.accepts
}

// own is those records that the zone's server may tell.
func (e *ear) own(l []api.RR) []api.RR {
	var good []api.RR
	for _, r := range l {
		if r.Class == api.ClassIN && name.Within(r.Name, e.zone) {
			good = append(good, r)
		}
	}
	return good
}

// answer hears what is said of the question's name, or of those to which it leads.
func (e *ear) answer(m api.Message) {
	sets := rrset.Group(e.own(m.Answers), api.RankAnswer, e.now)
	q := e.question
	met := 0
follow:
	if alias, ok := find(sets, q.Name, api.TypeCNAME); ok && q.Type != api.TypeCNAME {
		e.accept(alias)
		met++
		q.Name = rdata.Names(api.TypeCNAME, alias.Datas[0])[0]
		if met < api.MaxChain && name.Within(q.Name, e.zone) {
			goto follow
		}
		return
	}
	if last, ok := find(sets, q.Name, q.Type); ok {
		e.accept(last)
		return
	}
	e.deny(q, m)
}

// find is the set of a name and type among those of one class, and whether there is one.
func find(sets []api.Set, n string, t int) (api.Set, bool) {
	at := slices.IndexFunc(sets, func(s api.Set) bool { return s.Type == t && name.Same(s.Name, n) })
	if at < 0 {
		return api.Set{}, false
	}
	return sets[at], true
}

// deny hears that there is nothing for a question.
func (e *ear) deny(q api.Question, m api.Message) {
	kind := api.SetNone
	if m.Code == api.CodeName {
		kind = api.SetNothing
	}
	for _, r := range e.own(m.Authority) {
		if r.Type != api.TypeSOA || !rdata.Can(api.TypeSOA, r.Data) || !name.Within(q.Name, r.Name) {
			continue
		}
		if s, err := rrset.Negative(q, kind, r, e.now); err == api.OK {
			e.accept(s)
		}
		return
	}
}

// refer hears which servers are nearer to the question's name, and their addresses.
func (e *ear) refer(m api.Message) {
	for _, s := range rrset.Group(e.own(m.Authority), api.RankRefer, e.now) {
		if s.Type == api.TypeNS && !name.Same(s.Name, e.zone) && name.Within(e.question.Name, s.Name) {
			e.accept(s)
			e.glue(s, m)
			return
		}
	}
}

// glue hears the addresses of a zone's servers.
func (e *ear) glue(servers api.Set, m api.Message) {
	names := map[string]struct{}{}
	for _, data := range servers.Datas {
		for _, n := range rdata.Names(api.TypeNS, data) {
			names[name.Lower(n)] = struct{}{}
		}
	}
	for _, s := range rrset.Group(e.own(m.Additional), api.RankGlue, e.now) {
		if _, ok := names[name.Lower(s.Name)]; ok && s.Type == api.TypeA {
			e.accept(s)
		}
	}
}

// accept puts a set into the store, if it is fresh. In a circle of aliases one set is met several times, so each accept has its own.
func (e *ear) accept(s api.Set) {
	if !rrset.Fresh(s, e.now) {
		return
	}
	// A set that the store has no room for is accepted all the same.
	e.store.Put(s, e.now)
	e.accepts = append(e.accepts, api.Accept{At: e.now, TTL: s.Expires - e.now, Zone: strings.Clone(e.zone), Set: cloneSet(s)})
}
