package audit_test

import (
	"bytes"
	"fmt"
	"math"
	"slices"
	"strings"
	"testing"

	"cicerone/api"
	"cicerone/audit"
	"cicerone/name"
	"cicerone/zone"
)

// tree is one of two zones, with records of all types that have names, and aliases within and across the zones.
func tree() api.Tree {
	return api.Tree{Zones: []api.Zone{
		{Origin: named("."), RRs: []api.RR{
			soa(".", "r."), ns(".", "r."), host("r.", 1), ns("com.", "ns.com."), ns("com.", "two.com."), host("ns.com.", 2),
			cname("to.", "Www.com."), ptr("ptr.", "www.com."),
		}},
		{Origin: named("com."), RRs: []api.RR{
			soa("com.", "ns.com."), ns("com.", "two.com."), ns("com.", "ns.com."), host("ns.com.", 2), host("two.com.", 3),
			host("www.com.", 7), host("www.com.", 8), record("www.com.", textType, "Ab"), mx("com.", "mail.com."), mx("com.", "mail2.com."),
			cname("a.com.", "b.com."), cname("b.com.", "www.com."), cname("lost.com.", "not.com."), cname("out.com.", "to."), cname("self.com.", "self.com."),
			host("twice.com.", 5), host("twice.com.", 5), cname("c.com.", "twice.com."),
		}},
	}}
}

// truth is the reply that the tree has for a question.
func truth(t *testing.T, q api.Question) api.Message {
	t.Helper()
	r, ok := zone.Truth(tree(), q)
	if !ok {
		t.Fatalf("there is no truth of %v", q)
	}
	m := reply(query(1, q), r.Answers...)
	m.Code = r.Code
	return m
}

// isTrue asks for an answer.
func isTrue(t *testing.T, what string, want bool, m api.Message) {
	t.Helper()
	if got := audit.True(tree(), m); got != want {
		t.Errorf("%s: True of %v is %t", what, m, got)
	}
}

// questions is some that are answered in all ways.
func questions() []api.Question {
	return []api.Question{
		asked("www.com.", 1), asked("wWw.CoM.", 1), asked("www.com.", textType), asked("www.com.", api.TypeMX), asked("com.", api.TypeMX), asked("com.", api.TypeNS), asked("com.", api.TypeSOA), asked(".", api.TypeSOA),
		asked("to.", 1), asked("to.", textType), asked("to.", api.TypeMX), asked("to.", api.TypeCNAME), asked("ptr.", api.TypePTR), asked("a.com.", 1), asked("b.com.", 1), asked("a.com.", api.TypeCNAME),
		asked("lost.com.", 1), asked("out.com.", 1), asked("not.com.", 1), asked("x.www.com.", 1), asked("net.", 99), asked("a.com.", 65535), asked("twice.com.", 1), asked("c.com.", 1),
	}
}

// P24.3: the tree's own answers are true.
func TestTrue(t *testing.T) {
	for _, q := range questions() {
		isTrue(t, "the truth", true, truth(t, q))
	}
}

// P24.3: TTLs, sections and bits play no part, letters of names neither.
func TestTrueRest(t *testing.T) {
	for _, q := range questions() {
		m := truth(t, q)
		m.Header = api.Header{ID: 7, Opcode: 3, TC: true, Code: m.Code}
		m.Authority, m.Additional = []api.RR{{}, host("x.", 9)}, []api.RR{{Name: "x"}}
		for i := range m.Answers {
			m.Answers[i].TTL = []int{0, math.MinInt, math.MaxInt}[i%3]
		}
		isTrue(t, "the rest", true, m)
		for i, r := range m.Answers {
			m.Answers[i].Name = strings.ToUpper(r.Name)
		}
		isTrue(t, "great letters", true, m)
		m.Questions[0].Name = strings.ToUpper(q.Name)
		isTrue(t, "a question in great letters", true, m)
	}
}

// P24.3: names in data by name.Same, whatever else stands in data byte by byte.
func TestTrueData(t *testing.T) {
	for _, q := range []api.Question{asked("com.", api.TypeNS), asked("com.", api.TypeMX), asked("com.", api.TypeSOA), asked("ptr.", api.TypePTR), asked("a.com.", 1), asked("www.com.", textType), asked("www.com.", 1)} {
		m := truth(t, q)
		for i, r := range m.Answers {
			for j, c := range r.Data {
				for _, other := range []byte{c ^ 0x20, c + 1, c ^ 0x80, 0} {
					if other == c {
						continue
					}
					r.Data[j] = other
					// Of the bytes of these data those are letters of names that can be other ones without harm.
					letter := c >= 'a' && c <= 'z' || c >= 'A' && c <= 'Z'
					inName := map[int]bool{api.TypeNS: true, api.TypeCNAME: true, api.TypePTR: true, api.TypeMX: j >= 2, api.TypeSOA: j < len(r.Data)-20}[r.Type]
					isTrue(t, fmt.Sprint("byte ", j, " of record ", i, " is ", other), letter && inName && other == c^0x20, m)
				}
				r.Data[j] = c
			}
			for _, data := range [][]byte{nil, {}, r.Data[:1], r.Data[:len(r.Data)-1], r.Data[1:], append(slices.Clone(r.Data), 0), make([]byte, 19), make([]byte, 21), []byte("A")} {
				m.Answers[i].Data = data
				isTrue(t, "data that are none", false, m)
			}
			m.Answers[i] = r
		}
		isTrue(t, "as it was", true, m)
	}
}

// P24.3: all that a run may not be.
func TestTrueChanged(t *testing.T) {
	for _, q := range questions() {
		for i := range truth(t, q).Answers {
			for what, change := range map[string]func(l []api.RR) []api.RR{
				"less":          func(l []api.RR) []api.RR { return slices.Delete(l, i, i+1) },
				"more":          func(l []api.RR) []api.RR { return slices.Insert(l, i, l[i]) },
				"another Type":  func(l []api.RR) []api.RR { l[i].Type++; return l },
				"another Class": func(l []api.RR) []api.RR { l[i].Class = 3; return l },
				"no Class":      func(l []api.RR) []api.RR { l[i].Class = 1 + 1<<32; return l },
				"another name":  func(l []api.RR) []api.RR { l[i].Name = named("other."); return l },
				"other data":    func(l []api.RR) []api.RR { l[i].Data = []byte{9, 9, 9, 9}; return l },
				"one behind":    func(l []api.RR) []api.RR { return append(l, host("x.", 9)) },
				"one ahead":     func(l []api.RR) []api.RR { return append([]api.RR{host("x.", 9)}, l...) },
			} {
				m := truth(t, q)
				m.Answers = change(m.Answers)
				isTrue(t, what, false, m)
			}
		}
	}
}

// P24.3: data are sets: in whatever order, but each as often as all are; runs have an order.
func TestTrueOrder(t *testing.T) {
	for _, q := range questions() {
		m := truth(t, q)
		runs := 1
		for i := 1; i < len(m.Answers); i++ {
			if m.Answers[i].Type != m.Answers[i-1].Type || !name.Same(m.Answers[i].Name, m.Answers[i-1].Name) {
				runs++
			}
		}
		slices.Reverse(m.Answers)
		isTrue(t, "turned round", runs == 1, m)
	}
	m := truth(t, asked("www.com.", 1))
	m.Answers[1] = m.Answers[0]
	isTrue(t, "one twice in the place of two", false, m)
	m = truth(t, asked("twice.com.", 1))
	isTrue(t, "twice", true, m)
	m.Answers = m.Answers[:1]
	isTrue(t, "once, where the tree has it twice", false, m)
	// A run that stands apart is two.
	m = truth(t, asked("a.com.", 1))
	m.Answers = []api.RR{m.Answers[0], m.Answers[2], m.Answers[1], m.Answers[3]}
	isTrue(t, "a run apart", false, m)
}

// P24.3: codes.
func TestTrueCode(t *testing.T) {
	for _, q := range questions() {
		m := truth(t, q)
		right := m.Code
		for _, code := range []int{0, 1, 2, 3, 4, 5, 16, -1, 3 + 1<<32, math.MinInt, math.MaxInt} {
			m.Code = code
			isTrue(t, fmt.Sprint("code ", code), code == right, m)
		}
	}
}

// P24.3: questions that have no truth, or that are not one.
func TestTrueQuestion(t *testing.T) {
	good := truth(t, asked("www.com.", 1))
	for what, l := range map[string][]api.Question{
		"nil": nil, "none": {}, "two": slices.Repeat(good.Questions, 2), "another one": {asked("ns.com.", 1)}, "another Type": {asked("www.com.", textType)},
		"another Class": {{Name: good.Questions[0].Name, Type: 1, Class: 3}}, "no Type": {{Name: good.Questions[0].Name, Class: 1}}, "a Type beyond": {{Name: good.Questions[0].Name, Type: 1 + 1<<16, Class: 1}},
		"a circle": {asked("self.com.", 1)},
	} {
		isTrue(t, what, false, with(good, func(m *api.Message) { m.Questions = l }))
	}
	for _, n := range noNames {
		m := reply(query(1, api.Question{Name: n, Type: 1, Class: 1}))
		isTrue(t, "no name", false, m)
		isTrue(t, "no name, CodeName", false, with(m, func(m *api.Message) { m.Code = api.CodeName }))
	}
	circle := reply(query(1, asked("self.com.", 1)))
	for range 10 {
		isTrue(t, "a circle", false, circle)
		circle.Answers = append(circle.Answers, cname("self.com.", "self.com."))
	}
	isTrue(t, "a circle's own record", true, truth(t, asked("self.com.", api.TypeCNAME)))
}

// P24.3: a name that is none makes no run.
func TestTrueNoName(t *testing.T) {
	for _, n := range noNames {
		for _, q := range []api.Question{asked("www.com.", 1), asked("not.com.", 1), asked("a.com.", 1)} {
			m := truth(t, q)
			m.Answers = append(m.Answers, api.RR{Name: n, Type: 1, Class: 1})
			isTrue(t, "one more", false, m)
			for i := range m.Answers {
				x := truth(t, q)
				if i < len(x.Answers) {
					x.Answers[i].Name = n
					isTrue(t, "no name", false, x)
				}
			}
		}
	}
}

// P24.3: a tree that may not be has no truth.
func TestTrueTree(t *testing.T) {
	m := truth(t, asked("www.com.", 1))
	if audit.True(api.Tree{}, m) || audit.True(api.Tree{}, api.Message{}) || audit.True(tree(), api.Message{}) {
		t.Error("something is true of nothing")
	}
	x := tree()
	x.Zones[1].RRs = x.Zones[1].RRs[1:]
	if audit.True(x, m) {
		t.Error("a tree that may not be has a truth")
	}
}

// Memory: neither the tree nor the message is changed.
func TestTrueMemory(t *testing.T) {
	for _, q := range questions() {
		m, x := truth(t, q), tree()
		m.Answers = roomy(m.Answers)
		for _, r := range m.Answers {
			copy(r.Data, bytes.ToUpper(r.Data))
		}
		for i := range x.Zones {
			x.Zones[i].RRs = roomy(x.Zones[i].RRs)
		}
		rooms := func() string {
			s := fmt.Sprint(m.Answers[:cap(m.Answers)], m, x)
			for _, r := range m.Answers {
				s += fmt.Sprint(r.Data[:cap(r.Data)])
			}
			return s
		}
		was := rooms()
		audit.True(x, m)
		if now := rooms(); now != was {
			t.Errorf("tree and message have become %s, not %s", now, was)
		}
	}
}
