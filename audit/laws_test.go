package audit_test

import (
	"bytes"
	"fmt"
	"math"
	"math/rand/v2"
	"slices"
	"testing"

	"cicerone/api"
	"cicerone/audit"
)

// event is one of few streams, IDs and questions.
func (d drawing) event() api.Event {
	m := query(d.IntN(2), asked(one(d, "a.", "a.", "A.", "b."), 1+d.IntN(2)))
	m.RD = d.IntN(6) > 0
	switch d.IntN(40) {
	case 0:
		m.Questions = nil
	case 1:
		m.Questions = append(m.Questions, m.Questions...)
	case 2:
		m.Opcode = 1
	}
	return came(1+d.IntN(2), m)
}

// journal is one that is mostly paired.
func (d drawing) journal() []api.Event {
	var l, open []api.Event
	for range d.IntN(14) {
		if len(open) == 0 || d.IntN(2) == 0 {
			e := d.event()
			l, open = append(l, e), append(open, e)
			continue
		}
		at := d.IntN(len(open))
		e := open[at]
		e.Reply, e.Message = true, reply(e.Message)
		if d.IntN(12) > 0 {
			open = slices.Delete(open, at, at+1)
		}
		switch d.IntN(40) {
		case 0:
			e.Message.RA = false
		case 1:
			e.Message.Response = false
		case 2:
			e.Stream = 3 - e.Stream
		}
		l = append(l, e)
	}
	if d.IntN(8) == 0 {
		d.Shuffle(len(l), func(i, j int) { l[i], l[j] = l[j], l[i] })
	}
	return l
}

// P24.1: drawn journals, held against the second Paired.
func TestDrawnPaired(t *testing.T) {
	d := drawing{rand.New(rand.NewPCG(24, 1))}
	count := map[bool]int{}
	for range 60000 {
		l := d.journal()
		got := audit.Paired(l)
		if want := plainPaired(l); got != want {
			t.Fatalf("Paired of %v is %t", l, got)
		}
		count[got]++
	}
	if count[true] < 10000 || count[false] < 10000 {
		t.Errorf("paired and not were %v", count)
	}
}

// time is one of some that are far apart, or near one another.
func (d drawing) time() int {
	return one(d, d.IntN(8), d.IntN(8), d.IntN(8), -1, math.MinInt, math.MinInt+1, math.MaxInt-1, math.MaxInt)
}

// fact is a record of few.
func (d drawing) fact() api.RR {
	return with(host(one(d, "a.", "A.", "b.", "x.a."), byte(d.IntN(2))), func(r *api.RR) {
		r.TTL = one(d, d.IntN(6), d.time())
		switch d.IntN(30) {
		case 0:
			r.Name = one(d, noNames...)
		case 1:
			r.Class = d.IntN(3)
		case 2:
			r.Type = one(d, 0, 6, 5)
		case 3:
			r.Data = nil
		case 4, 5:
			*r = ttl(r.TTL, soa("a.", "b."))
		}
	})
}

// accept is one that often backs one of some records.
func (d drawing) accept(l []api.RR) api.Accept {
	r := d.fact()
	if len(l) > 0 && d.IntN(6) > 0 {
		r = one(d, l...)
	}
	a := accepted(0, 0, one(d, ".", ".", "a.", "A.", "b."), r)
	if d.IntN(3) == 0 {
		a.Set.Datas = append(a.Set.Datas, d.fact().Data)
	}
	if r.Type == api.TypeSOA && d.IntN(4) > 0 || d.IntN(20) == 0 {
		a.Set.Kind = 1 + d.IntN(2)
		a.Set.Zone, a.Set.Name = r.Name, named(one(d, "a.", "x.a.", "b."))
	}
	if a.At, a.TTL = d.IntN(4), 3+d.IntN(9); d.IntN(4) == 0 {
		a.At, a.TTL = d.time(), d.time()
	}
	return a
}

// P24.2: drawn journals and accepts, held against the second Backed.
func TestDrawnBacked(t *testing.T) {
	d := drawing{rand.New(rand.NewPCG(24, 2))}
	count := map[string]int{}
	for range 60000 {
		var l []api.Event
		var all []api.RR
		for range 1 + d.IntN(3) {
			var answers []api.RR
			for range d.IntN(3) {
				answers = append(answers, d.fact())
			}
			e := told(one(d, 2+d.IntN(5), d.time()), answers...)[0]
			if e.Reply = d.IntN(8) > 0; d.IntN(2) == 0 {
				e.Message.Authority = []api.RR{d.fact()}
			}
			l, all = append(l, e), slices.Concat(all, e.Message.Answers, e.Message.Authority)
		}
		var a []api.Accept
		for range d.IntN(12) {
			a = append(a, d.accept(all))
		}
		got := audit.Backed(l, a)
		if want := plainBacked(l, a); got != want {
			t.Fatalf("Backed of %v, %v is %t", l, a, got)
		}
		count[fmt.Sprint(got, " ", min(len(all), 3))]++
	}
	for _, what := range []string{"true 0", "true 1", "true 2", "true 3", "false 1", "false 2", "false 3"} {
		if count[what] < 500 {
			t.Errorf("%s: only %d times, of %v", what, count[what], count)
		}
	}
}

// change changes one thing of records.
func (d drawing) change(l []api.RR) []api.RR {
	if len(l) == 0 {
		return append(l, host("www.com.", 7))
	}
	r := &l[d.IntN(len(l))]
	switch d.IntN(12) {
	case 0:
		r.Name = one(d, append(noNames, named("com."), named("www.com."))...)
	case 1:
		r.Type = one(d, 0, 1, 2, 5, 6, 12, 15, textType)
	case 2:
		r.Class = d.IntN(3)
	case 3:
		r.Data = one(d, nil, []byte("\x03wWw\x03com\x00"), bytes.ToLower(r.Data), bytes.ToUpper(r.Data), append(r.Data, 0), []byte("\x01"))
	case 4:
		return append(l, *r)
	case 5:
		return l[1:]
	case 6:
		return append(l[1:], l[0])
	case 7:
		*r = one(d, l...)
	case 8:
		return append(l, one(d, host("www.com.", 7), cname("x.", "Y."), api.RR{}))
	default:
		// Another letter here and there, mostly without harm.
		r.Name, r.Data = d.letters(r.Name), []byte(d.letters(string(r.Data)))
	}
	return l
}

// P24.3: drawn replies near the truth, held against the second True.
func TestDrawnTrue(t *testing.T) {
	d := drawing{rand.New(rand.NewPCG(24, 3))}
	x := tree()
	count := map[bool]int{}
	for range 20000 {
		m := truth(t, one(d, questions()...))
		m.Questions[0].Name = d.letters(m.Questions[0].Name)
		for d.IntN(3) > 0 {
			m.Answers = d.change(m.Answers)
		}
		switch d.IntN(30) {
		case 0:
			m.Code = d.IntN(6)
		case 1:
			m.Questions = slices.Repeat(m.Questions, d.IntN(3))
		}
		got := audit.True(x, m)
		if want := plainTrue(x, m); got != want {
			t.Fatalf("True of %v is %t", m, got)
		}
		count[got]++
	}
	if count[true] < 5000 || count[false] < 5000 {
		t.Errorf("true and not were %v", count)
	}
}
