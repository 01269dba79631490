package upstream_test

import (
	"math"
	"testing"

	"cicerone/api"
	"cicerone/name"
	"cicerone/prefix"
	"cicerone/rdata"
	"cicerone/upstream"
	"cicerone/wire"
	"cicerone/zone"
)

// Addresses of the tree's servers: of the root, of com., of both, of none, and once more of com. by the greatest number.
const (
	ofNone = iota
	ofRoot
	ofCom
	ofBoth
	greatest = 1<<32 - 1
)

// addrs are all of them, nobody's are those of no server.
var (
	addrs   = []int{ofNone, ofRoot, ofCom, ofBoth, greatest}
	nobodys = []int{4, 5, -1, greatest + 1, greatest - 1, 1<<32 + 1, math.MinInt, math.MaxInt}
)

// conns are numbers of connections: any number is one.
var conns = []int{1, 0, -1, 2, math.MinInt, math.MaxInt}

// named is the name of a text.
func named(text string) string {
	n, e := name.Parse(text)
	if e != api.OK {
		panic("no name: " + text)
	}
	return n
}

// record is one of a name's text.
func record(owner string, t int, data string) api.RR {
	return api.RR{Name: named(owner), Type: t, Class: api.ClassIN, TTL: 300, Data: []byte(data)}
}

// soa is the first record of a zone.
func soa(owner string) api.RR {
	data, e := rdata.Make(api.SOA{MName: named(owner), RName: named(owner), Serial: 7, Minimum: 60})
	if e != api.OK {
		panic("no SOA")
	}
	return record(owner, api.TypeSOA, string(data))
}

// tree is one of two zones; what it has at big.com. fits in no message, each one of the two alone would.
func tree() api.Tree {
	big := string(make([]byte, 40000))
	return api.Tree{
		Zones: []api.Zone{
			{Origin: named("."), RRs: []api.RR{
				soa("."), record(".", api.TypeNS, named("r.")), record("r.", api.TypeA, "\x00\x00\x00\x01"),
				record("com.", api.TypeNS, named("ns.com.")), record("ns.com.", api.TypeA, "\x00\x00\x00\x02"),
			}},
			{Origin: named("com."), RRs: []api.RR{
				soa("com."), record("com.", api.TypeNS, named("ns.com.")), record("ns.com.", api.TypeA, "\x00\x00\x00\x02"),
				record("a.com.", api.TypeCNAME, named("b.com.")), record("b.com.", api.TypeA, "\x09\x09\x09\x09"),
				record("big.com.", 99, big), record("big.com.", 98, big), record("big.com.", 99, big+"x"),
			}},
		},
		Servers: []api.Server{
			{Addr: ofRoot, Zones: []int{0}}, {Addr: ofCom, Zones: []int{1}}, {Addr: ofNone},
			{Addr: ofBoth, Zones: []int{1, 0}}, {Addr: greatest, Zones: []int{1}},
		},
	}
}

// asked is a query for a text's name.
func asked(id int, text string, t int) api.Message {
	return api.Message{Header: api.Header{ID: id, RD: id%2 == 1}, Questions: []api.Question{{Name: named(text), Type: t, Class: api.ClassIN}}}
}

// queries is some that are answered in all ways: with a record, an alias, a referral, none, nothing, CodeRefused and CodeNot.
func queries() []api.Message {
	not := asked(7, "b.com.", 1)
	not.Opcode = 5
	other := asked(8, "b.com.", 1)
	other.Questions[0].Class = 3
	return []api.Message{
		asked(1, "b.com.", 1), asked(2, "A.Com.", 1), asked(3, "ns.com.", 1), asked(4, "b.com.", 15), asked(5, "not.com.", 1), asked(6, "x.org.", 1), not, other,
		asked(9, ".", 2), asked(10, "big.com.", 98), asked(65535, "R.", 1), asked(0, "com.", 6),
	}
}

// encoded is a message's bytes.
func encoded(m api.Message) string {
	b, e := wire.Encode(m)
	if e != api.OK {
		panic("a message that can't be")
	}
	return string(b)
}

// framed is the frames of bodies, sent those of queries.
func framed(l ...string) string {
	s := ""
	for _, body := range l {
		f, _ := prefix.Encode([]byte(body))
		s += string(f)
	}
	return s
}

func sent(l ...api.Message) string {
	s := ""
	for _, m := range l {
		s += framed(encoded(m))
	}
	return s
}

// told is the frames of a server's replies to queries, by zone.Serve.
func told(addr int, l ...api.Message) string {
	s := ""
	for _, m := range l {
		reply, ok := zone.Serve(tree(), addr, m)
		if !ok {
			panic("no reply")
		}
		s += sent(reply)
	}
	return s
}

// opened is the tree's servers.
func opened(t *testing.T) *upstream.Servers {
	t.Helper()
	s, e := upstream.New(tree())
	if s == nil || e != api.OK {
		t.Fatalf("New is %v, %d", s, e)
	}
	return s
}

// feeds asks what a server answers to bytes.
func feeds(t *testing.T, s *upstream.Servers, conn, addr int, b, want string) {
	t.Helper()
	if got, e := s.Feed(conn, addr, []byte(b)); string(got) != want || e != api.OK {
		t.Errorf("Feed(%d, %d, %.60q) is %.300q, %d, not %.300q", conn, addr, b, got, e, want)
	}
}

// refuses asks for an error of Feed.
func refuses(t *testing.T, s *upstream.Servers, conn, addr int, b string, want api.Errno) {
	t.Helper()
	if got, e := s.Feed(conn, addr, []byte(b)); len(got) != 0 || e != want {
		t.Errorf("Feed(%d, %d, %.60q) is %q, %d", conn, addr, b, got, e)
	}
}

// forgets forgets a connection.
func forgets(t *testing.T, s *upstream.Servers, conn int, want api.Errno) {
	t.Helper()
	if e := s.Forget(conn); e != want {
		t.Errorf("Forget(%d) is %d, not %d", conn, e, want)
	}
}
