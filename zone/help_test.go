package zone_test

import (
	"bytes"
	"slices"
	"strings"
	"testing"

	"cicerone/api"
	"cicerone/name"
	"cicerone/rdata"
	"cicerone/wire"
	"cicerone/zone"
)

// named is the name of a text.
func named(text string) string {
	n, e := name.Parse(text)
	if e != api.OK {
		panic("no name: " + text)
	}
	return n
}

// record is one of a name's text.
func record(owner string, t int, data string) api.RR {
	return api.RR{Name: named(owner), Type: t, Class: api.ClassIN, TTL: 300, Data: []byte(data)}
}

// soa, ns, cname and host are records of these types, mx one of a type that has names and leads nowhere.
func soa(owner string) api.RR {
	data, e := rdata.Make(api.SOA{MName: "\x01m" + named(owner), RName: "\x01r" + named(owner), Serial: 7, Minimum: 60})
	if e != api.OK {
		panic("no SOA")
	}
	return record(owner, api.TypeSOA, string(data))
}

func ns(owner, to string) api.RR    { return record(owner, api.TypeNS, named(to)) }
func cname(owner, to string) api.RR { return record(owner, api.TypeCNAME, named(to)) }
func mx(owner, to string) api.RR    { return record(owner, api.TypeMX, "\x00\x05"+named(to)) }
func host(owner string, last byte) api.RR {
	return record(owner, api.TypeA, string([]byte{10, 0, 0, last}))
}

// Places of the zones of the tree, and addresses of the servers of each of them alone, all of them, and none.
const (
	atRoot = iota
	atCom
	atNet
	atSub
	ofAll
	ofComSub
	ofNone
)

// tree is one that may be: four zones, of which sub.com. lies below com.
func tree() api.Tree {
	return api.Tree{
		Zones: []api.Zone{
			{Origin: named("."), RRs: []api.RR{
				soa("."), ns(".", "a.root."), ns(".", "ns.net."),
				host("a.root.", 1), host("ns.net.", 2), host("ns.net.", 3),
				ns("com.", "ns.com."), ns("com.", "ns.net."), host("ns.com.", 4),
				ns("net.", "ns.net."),
				cname("to.", "a.root."), cname("away.", "www.com."), record("text.", api.TypeTXT, "\x02hi"),
			}},
			{Origin: named("com."), RRs: []api.RR{
				soa("com."), ns("com.", "ns.com."), ns("com.", "ns.net."), host("ns.com.", 4),
				host("www.com.", 5), mx("www.com.", "mail.com."), host("www.com.", 6), host("x.y.z.com.", 7),
				cname("one.com.", "two.com."), cname("two.com.", "www.com."), cname("lost.com.", "not.com."),
				cname("out.com.", "www.net."), cname("down.com.", "www.sub.com."), cname("at.com.", "sub.com."),
				ns("sub.com.", "ns.sub.com."), ns("sub.com.", "ns.com."), ns("sub.com.", "far.net."), host("ns.sub.com.", 8), host("ns.sub.com.", 9),
				host("old.sub.com.", 10),
			}},
			{Origin: named("net."), RRs: []api.RR{
				soa("net."), ns("net.", "ns.net."), host("ns.net.", 2), host("www.net.", 11), cname("in.net.", "one.com."),
			}},
			{Origin: named("sub.com."), RRs: []api.RR{
				soa("sub.com."), ns("sub.com.", "far.net."), ns("sub.com.", "ns.sub.com."), ns("sub.com.", "ns.com."), host("ns.sub.com.", 8),
				host("www.sub.com.", 12), host("sub.com.", 13),
			}},
		},
		Servers: []api.Server{
			{Addr: atRoot, Zones: []int{0}}, {Addr: atCom, Zones: []int{1}}, {Addr: atNet, Zones: []int{2}}, {Addr: atSub, Zones: []int{3}},
			{Addr: ofAll, Zones: []int{3, 1, 0, 2}}, {Addr: ofComSub, Zones: []int{1, 3, 1}}, {Addr: ofNone},
		},
	}
}

// lone is a tree of the root's zone alone, with these records beside those that it must have, whose server has the address 0.
func lone(l ...api.RR) api.Tree {
	rrs := append([]api.RR{soa("."), ns(".", "a.root.")}, l...)
	return api.Tree{Zones: []api.Zone{{Origin: named("."), RRs: rrs}}, Servers: []api.Server{{Addr: 0, Zones: []int{0}}}}
}

// chain is aliases that lead from 1. on to the name behind the last one.
func chain(many int) []api.RR {
	var l []api.RR
	for i := range many {
		l = append(l, cname(link(i+1), link(i+2)))
	}
	return l
}

// link is the name of a number in a chain.
func link(i int) string { return strings.Repeat("l", i) + "." }

// asked is a query for a text's name.
func asked(text string, t int) api.Message {
	return api.Message{
		Header:    api.Header{ID: 1234, RD: true},
		Questions: []api.Question{{Name: named(text), Type: t, Class: api.ClassIN}},
	}
}

// replied is the reply to a query, with this code and these records.
func replied(m api.Message, aa bool, code int, answers, authority, additional []api.RR) api.Message {
	h := api.Header{ID: m.ID, Response: true, Opcode: m.Opcode, AA: aa, RD: m.RD, Code: code}
	return api.Message{Header: h, Questions: m.Questions, Answers: answers, Authority: authority, Additional: additional}
}

// serves asks for a server's reply.
func serves(t *testing.T, x api.Tree, addr int, m, want api.Message) {
	t.Helper()
	if got, ok := zone.Serve(x, addr, m); !ok || !wire.Same(got, want) {
		t.Errorf("Serve(%d, %v) is %v, %t, not %v", addr, m, got, ok, want)
	}
}

// silent asks that a server has no reply.
func silent(t *testing.T, x api.Tree, addr int, m api.Message) {
	t.Helper()
	if got, ok := zone.Serve(x, addr, m); ok || !wire.Same(got, api.Message{}) {
		t.Errorf("Serve(%d, %v) is %v, %t", addr, m, got, ok)
	}
}

// sameRecords compares records.
func sameRecords(a, b []api.RR) bool {
	return slices.EqualFunc(a, b, func(x, y api.RR) bool {
		return x.Name == y.Name && x.Type == y.Type && x.Class == y.Class && x.TTL == y.TTL && bytes.Equal(x.Data, y.Data)
	})
}

// comes asks what a question comes to in a tree.
func comes(t *testing.T, x api.Tree, q api.Question, code int, want ...api.RR) {
	t.Helper()
	if got, ok := zone.Truth(x, q); !ok || got.Code != code || !sameRecords(got.Answers, want) {
		t.Errorf("Truth(%v) is %v, %t, not %d, %v", q, got, ok, code, want)
	}
}

// unknown asks that there is no truth.
func unknown(t *testing.T, x api.Tree, q api.Question) {
	t.Helper()
	if got, ok := zone.Truth(x, q); ok || got.Code != 0 || len(got.Answers) != 0 {
		t.Errorf("Truth(%v) is %v, %t", q, got, ok)
	}
}

// hints asks for the hints.
func hints(t *testing.T, x api.Tree, want ...api.RR) {
	t.Helper()
	if got := zone.Hints(x); !sameRecords(got, want) {
		t.Errorf("Hints is %v, not %v", got, want)
	}
}

// may asks whether a tree may be; one that may not has nothing.
func may(t *testing.T, what string, x api.Tree, want bool) {
	t.Helper()
	if got := zone.Can(x); got != want {
		t.Errorf("%s: Can is %t", what, got)
	}
	if want {
		return
	}
	for _, q := range []api.Question{asked("www.com.", 1).Questions[0], asked(".", 2).Questions[0]} {
		unknown(t, x, q)
	}
	for addr := range 7 {
		silent(t, x, addr, asked("www.com.", 1))
		silent(t, x, addr, asked(".", 2))
	}
	hints(t, x)
	if t.Failed() {
		t.Fatal(what)
	}
}

// great is a name with great letters alone: the lengths of labels are below all letters.
func great(s string) string { return strings.ToUpper(s) }
