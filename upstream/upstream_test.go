package upstream_test

import (
	"strings"
	"testing"

	"cicerone/api"
	"cicerone/upstream"
)

// P22.1: trees that may not be.
func TestNewWrong(t *testing.T) {
	for what, change := range map[string]func(x *api.Tree){
		"no zones":             func(x *api.Tree) { *x = api.Tree{} },
		"servers alone":        func(x *api.Tree) { x.Zones = nil },
		"no root":              func(x *api.Tree) { x.Zones, x.Servers = x.Zones[1:], nil },
		"the root last":        func(x *api.Tree) { x.Zones[0], x.Zones[1] = x.Zones[1], x.Zones[0] },
		"an origin that isn't": func(x *api.Tree) { x.Zones[1].Origin = "com" },
		"no SOA":               func(x *api.Tree) { x.Zones[1].RRs = x.Zones[1].RRs[1:] },
		"two SOAs":             func(x *api.Tree) { x.Zones[1].RRs = append(x.Zones[1].RRs, soa("com.")) },
		"a record outside":     func(x *api.Tree) { x.Zones[1].RRs = append(x.Zones[1].RRs, record("b.org.", 1, "1234")) },
		"data that are none":   func(x *api.Tree) { x.Zones[1].RRs[4].Data = []byte{1} },
		"another Class":        func(x *api.Tree) { x.Zones[1].RRs[4].Class = 3 },
		"a cut without a zone": func(x *api.Tree) { x.Zones[0].RRs = append(x.Zones[0].RRs, record("org.", 2, named("r."))) },
		"a zone without a cut": func(x *api.Tree) { x.Zones[0].RRs = x.Zones[0].RRs[:3] },
		"an address twice":     func(x *api.Tree) { x.Servers[1].Addr = ofRoot },
		"an address below":     func(x *api.Tree) { x.Servers[1].Addr = -1 },
		"an address too great": func(x *api.Tree) { x.Servers[1].Addr = greatest + 1 },
		"a zone that is none":  func(x *api.Tree) { x.Servers[1].Zones = []int{2} },
		"too many servers":     func(x *api.Tree) { x.Servers = make([]api.Server, 41) },
	} {
		x := tree()
		change(&x)
		if s, e := upstream.New(x); s != nil || e != api.ErrArg {
			t.Errorf("%s: New is %v, %d", what, s, e)
		}
	}
}

// P22.1: a tree without servers may be; nobody is there to be asked.
func TestNewAlone(t *testing.T) {
	x := tree()
	x.Servers = nil
	s, e := upstream.New(x)
	if s == nil || e != api.OK {
		t.Fatalf("New is %v, %d", s, e)
	}
	for _, addr := range append(addrs, nobodys...) {
		refuses(t, s, 1, addr, sent(queries()...), api.ErrArg)
	}
	forgets(t, s, 1, api.ErrArg)
}

// P22.1: a reply, by its bytes: its owner has the zone's letters, not the query's, so its first label is written anew.
func TestBytes(t *testing.T) {
	question := "\x01B\x03com\x00\x00\x01\x00\x01"
	query := "\x00\x17\xab\xcd\x01\x00\x00\x01\x00\x00\x00\x00\x00\x00" + question
	reply := "\x00\x29\xab\xcd\x85\x00\x00\x01\x00\x01\x00\x00\x00\x00" + question + "\x01b\xc0\x0e\x00\x01\x00\x01\x00\x00\x01\x2c\x00\x04\x09\x09\x09\x09"
	feeds(t, opened(t), 1, ofCom, query, reply)
}

// P22.1: frames in one piece, one by one, several in one piece, and in pieces of one byte, to each server, on each connection.
func TestFeed(t *testing.T) {
	s := opened(t)
	for _, conn := range conns {
		for _, addr := range addrs {
			feeds(t, s, conn, addr, "", "")
			for _, m := range queries() {
				feeds(t, s, conn, addr, sent(m), told(addr, m))
				b := sent(m)
				for i := range len(b) - 1 {
					feeds(t, s, conn, addr, b[i:i+1], "")
				}
				feeds(t, s, conn, addr, b[len(b)-1:], told(addr, m))
			}
			feeds(t, s, conn, addr, sent(queries()...), told(addr, queries()...))
			b := sent(queries()[0])
			feeds(t, s, conn, addr, b+b+b[:9], told(addr, queries()[0], queries()[0]))
			feeds(t, s, conn, addr, b[9:]+b, told(addr, queries()[0], queries()[0]))
		}
	}
}

// P22.1: nil and empty bytes.
func TestFeedNothing(t *testing.T) {
	s := opened(t)
	b := sent(queries()[0])
	feeds(t, s, 1, ofCom, b[:5], "")
	for _, none := range [][]byte{nil, {}, make([]byte, 0, 9)} {
		if got, e := s.Feed(1, ofCom, none); len(got) != 0 || e != api.OK {
			t.Errorf("Feed(%#v) is %q, %d", none, got, e)
		}
	}
	feeds(t, s, 1, ofCom, b[5:], told(ofCom, queries()[0]))
}

// P22.1: an addr that is no server's: ErrArg, and nothing is read.
func TestFeedNobody(t *testing.T) {
	s := opened(t)
	b := sent(queries()...)
	for _, conn := range conns {
		for _, addr := range nobodys {
			for _, part := range []string{"", "\x00", b[:5], b} {
				refuses(t, s, conn, addr, part, api.ErrArg)
			}
			forgets(t, s, conn, api.ErrArg)
		}
	}
	feeds(t, s, 1, ofCom, b[:5], "")
	for _, addr := range nobodys {
		refuses(t, s, 1, addr, b[5:], api.ErrArg)
	}
	feeds(t, s, 1, ofCom, b[5:], told(ofCom, queries()...))
}

// P22.1: bodies that are no message, a Response, and those to which zone.Serve has no reply, are let go; those beside them are answered.
func TestFeedLetGo(t *testing.T) {
	m := queries()[0]
	whole := encoded(m)
	response, two, no := m, m, m
	response.Response = true
	two.Questions = append(m.Questions, m.Questions...)
	no.Questions = nil
	for what, body := range map[string]string{
		"no bytes":              "",
		"a byte":                "x",
		"a head cut off":        whole[:11],
		"a head without more":   whole[:12],
		"a question cut off":    whole[:len(whole)-1],
		"a byte behind":         whole + "\x00",
		"bits that must be 0":   whole[:3] + "\x40" + whole[4:],
		"a name that points on": whole[:12] + "\xc0\x0c\x00\x01\x00\x01",
		"a Response":            encoded(response),
		"a server's reply":      told(ofCom, m)[2:],
		"no question":           encoded(no),
		"two questions":         encoded(two),
		"many bytes":            strings.Repeat("\xff", 65535),
	} {
		s := opened(t)
		for _, addr := range addrs {
			feeds(t, s, 1, addr, framed(body), "")
			feeds(t, s, 1, addr, framed(body, whole, body, body)+sent(queries()...)+framed(body), told(addr, m)+told(addr, queries()...))
		}
		if t.Failed() {
			t.Fatal(what)
		}
	}
}

// P22.1: replies that can't be written are let go.
func TestFeedTooLong(t *testing.T) {
	s := opened(t)
	big, m := asked(12, "big.com.", 99), queries()[0]
	for _, addr := range []int{ofCom, ofBoth, greatest} {
		feeds(t, s, 1, addr, sent(big), "")
		feeds(t, s, 1, addr, sent(m, big, big, m), told(addr, m, m))
	}
	// Who does not have it has a reply.
	for _, addr := range []int{ofRoot, ofNone} {
		feeds(t, s, 1, addr, sent(m, big), told(addr, m, big))
	}
}

// P22.1: what connections have read is their own, though their pieces come in turns.
func TestFeedTurns(t *testing.T) {
	s := opened(t)
	x, y := queries()[0], queries()[3]
	b, c := sent(x), sent(y)
	feeds(t, s, 1, ofCom, b[:7], "")
	feeds(t, s, 2, ofCom, c[:1], "")
	feeds(t, s, 0, ofCom, b, told(ofCom, x))
	feeds(t, s, 1, ofCom, b[7:8], "")
	feeds(t, s, 2, ofCom, c[1:]+c[:20], told(ofCom, y))
	feeds(t, s, 1, ofCom, b[8:], told(ofCom, x))
	forgets(t, s, 1, api.OK)
	feeds(t, s, 2, ofCom, c[20:], told(ofCom, y))
}

// P22.1: one connection with several addrs: who is asked with the last piece of a frame answers it.
func TestFeedAddrs(t *testing.T) {
	s := opened(t)
	m := asked(3, "ns.com.", 1)
	b := sent(m)
	for i, addr := range addrs {
		feeds(t, s, 1, addrs[(i+1)%len(addrs)], b[:4], "")
		feeds(t, s, 1, addrs[(i+2)%len(addrs)], b[4:9], "")
		feeds(t, s, 1, addr, b[9:], told(addr, m))
	}
	if told(ofRoot, m) == told(ofCom, m) || told(ofNone, m) == told(ofRoot, m) {
		t.Error("servers answer alike")
	}
}

// P22.1: Forget of a connection that fed nothing, twice, with half a frame read, and with none; and Feed behind it.
func TestForget(t *testing.T) {
	s := opened(t)
	m := queries()[0]
	b := sent(m)
	for _, conn := range conns {
		forgets(t, s, conn, api.ErrArg)
		feeds(t, s, conn, ofCom, b[:9], "")
		forgets(t, s, conn, api.OK)
		forgets(t, s, conn, api.ErrArg)
		feeds(t, s, conn, ofCom, b, told(ofCom, m))
		forgets(t, s, conn, api.OK)
		forgets(t, s, conn, api.ErrArg)
		// The rest of a frame whose beginning is gone is read as a beginning.
		feeds(t, s, conn, ofCom, b[:1], "")
		forgets(t, s, conn, api.OK)
		feeds(t, s, conn, ofCom, b+b[:1], told(ofCom, m))
		feeds(t, s, conn, ofCom, b[1:], told(ofCom, m))
		forgets(t, s, conn, api.OK)
	}
	feeds(t, s, 1, ofCom, b[:9], "")
	feeds(t, s, 2, ofCom, b[:9], "")
	forgets(t, s, 1, api.OK)
	forgets(t, s, 3, api.ErrArg)
	feeds(t, s, 2, ofCom, b[9:], told(ofCom, m))
}

// Objects: nil servers, and those that no call made.
func TestNoServers(t *testing.T) {
	made := opened(t)
	feeds(t, made, 1, ofCom, "\x00", "")
	*made = upstream.Servers{}
	for _, s := range []*upstream.Servers{nil, {}, new(upstream.Servers), made} {
		for range 2 {
			for _, conn := range conns {
				for _, addr := range append(addrs, nobodys...) {
					refuses(t, s, conn, addr, "", api.ErrNil)
					refuses(t, s, conn, addr, sent(queries()...), api.ErrNil)
				}
				forgets(t, s, conn, api.ErrNil)
			}
		}
	}
}

// From arguments alone: servers know nothing of one another.
func TestTwoServers(t *testing.T) {
	x, y := opened(t), opened(t)
	m := queries()[0]
	b := sent(m)
	feeds(t, x, 1, ofCom, b[:5], "")
	forgets(t, y, 1, api.ErrArg)
	feeds(t, y, 1, ofCom, b, told(ofCom, m))
	feeds(t, x, 1, ofCom, b[5:], told(ofCom, m))
	forgets(t, y, 1, api.OK)
	forgets(t, x, 1, api.OK)
}
