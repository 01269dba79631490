package upstream_test

import (
	"bytes"
	"math/rand/v2"
	"slices"
	"strings"
	"testing"
	"unsafe"

	"cicerone/api"
	"cicerone/prefix"
	"cicerone/upstream"
	"cicerone/wire"
	"cicerone/zone"
)

// plain is second servers, by the chapter's words: all bytes that came on each connection, and how many frames of them were told.
type plain struct {
	came map[int]string
	told map[int]int
}

func (p *plain) feed(conn, addr int, b string) (string, api.Errno) {
	if !slices.Contains(addrs, addr) {
		return "", api.ErrArg
	}
	p.came[conn] += b
	l := prefix.New().Feed([]byte(p.came[conn]))
	out := ""
	for _, body := range l[p.told[conn]:] {
		m, e := wire.Decode(body)
		reply, ok := zone.Serve(tree(), addr, m)
		if e != api.OK || !ok {
			continue
		}
		if b, e := wire.Encode(reply); e == api.OK {
			out += framed(string(b))
		}
	}
	p.told[conn] = len(l)
	return out, api.OK
}

func (p *plain) forget(conn int) api.Errno {
	if _, ok := p.came[conn]; !ok {
		return api.ErrArg
	}
	delete(p.came, conn)
	delete(p.told, conn)
	return api.OK
}

// drawnBytes is what may come on a connection: often a query, seldom something else, or one whose reply is too long.
func drawnBytes(r *rand.Rand) string {
	m := queries()[r.IntN(len(queries()))]
	m.ID = r.IntN(65536)
	switch r.IntN(15) {
	case 0:
		return framed(encoded(m)[:r.IntN(18)])
	case 1:
		m.Response = true
	case 2:
		m.Questions = append(m.Questions, m.Questions...)
	case 3:
		m = asked(m.ID, "big.com.", 99)
	}
	return sent(m)
}

// P22.1: drawn calls, held against the second servers.
func TestDrawn(t *testing.T) {
	r := rand.New(rand.NewPCG(22, 1))
	replied, forgot := 0, 0
	for range 40 {
		s, p := opened(t), &plain{map[int]string{}, map[int]int{}}
		come := map[int]string{}
		for range 60 {
			conn := conns[r.IntN(4)]
			if r.IntN(15) == 0 {
				e := s.Forget(conn)
				if we := p.forget(conn); e != we {
					t.Fatalf("Forget(%d) is %d, not %d", conn, e, we)
				} else if e == api.OK {
					forgot++
				}
				come[conn] = ""
				continue
			}
			addr := addrs[r.IntN(len(addrs))]
			if r.IntN(15) == 0 {
				addr = nobodys[r.IntN(len(nobodys))]
			}
			come[conn] += drawnBytes(r)
			size := r.IntN(len(come[conn]) + 1)
			b := come[conn][:size]
			got, e := s.Feed(conn, addr, []byte(b))
			want, we := p.feed(conn, addr, b)
			if string(got) != want || e != we {
				t.Fatalf("Feed(%d, %d, %q) is %q, %d, not %q, %d", conn, addr, b, got, e, want, we)
			}
			if e == api.OK {
				come[conn] = come[conn][size:]
			}
			replied += len(prefix.New().Feed(got))
		}
	}
	if replied < 500 || forgot < 50 {
		t.Errorf("there were %d replies alone, and %d times a connection was forgotten", replied, forgot)
	}
}

// P22.2: each query has one reply, with its ID and question, but for those whose reply is too long.
func TestOnce(t *testing.T) {
	r := rand.New(rand.NewPCG(22, 2))
	for _, addr := range addrs {
		s := opened(t)
		var l []api.Message
		for i := range 200 {
			m := queries()[r.IntN(len(queries()))]
			m.ID = i * 300
			l = append(l, m)
		}
		var out []byte
		for b := []byte(sent(l...)); len(b) > 0; {
			size := min(len(b), 1+r.IntN(90))
			got, e := s.Feed(1, addr, b[:size])
			if e != api.OK {
				t.Fatal(e)
			}
			out = append(out, got...)
			b = b[size:]
		}
		replies := prefix.New().Feed(out)
		if len(replies) != len(l) {
			t.Fatalf("%d replies to %d queries", len(replies), len(l))
		}
		for i, body := range replies {
			m, e := wire.Decode(body)
			if e != api.OK || m.ID != l[i].ID || !m.Response || m.RD != l[i].RD || !slices.Equal(m.Questions, l[i].Questions) {
				t.Errorf("the reply to %v is %v, %d", l[i], m, e)
			}
		}
	}
}

// P22.1: how bytes are cut plays no part, at each two places.
func TestCuts(t *testing.T) {
	b := sent(queries()[:2]...) + framed("?", "") + sent(asked(12, "big.com.", 99), queries()[2])
	want := told(ofBoth, queries()[:3]...)
	for i := range len(b) + 1 {
		for j := i; j <= len(b); j += 5 {
			s := opened(t)
			out := ""
			for _, part := range []string{b[:i], b[i:j], b[j:]} {
				got, _ := s.Feed(1, ofBoth, []byte(part))
				out += string(got)
			}
			if out != want {
				t.Fatalf("cut at %d and %d: %q, not %q", i, j, out, want)
			}
		}
	}
}

// Memory: bytes that are fed are neither changed nor kept, nor the room behind them.
func TestFeedMemory(t *testing.T) {
	b := sent(queries()...)
	for _, size := range []int{1, 2, 3, 10, 40, 1 << 20} {
		s := opened(t)
		out := ""
		for part := range slices.Chunk([]byte(b), size) {
			room := append(slices.Clone(part), "room behind it"...)
			was := bytes.Clone(room)
			got, _ := s.Feed(1, ofBoth, room[:len(part)])
			out += string(got)
			if !bytes.Equal(room, was) {
				t.Errorf("a feed of %q has made them %q", was, room)
			}
			clear(room)
			// Nor is what was answered.
			clear(got[:cap(got)])
		}
		if want := told(ofBoth, queries()...); out != want {
			t.Errorf("with bytes changed behind feeds of %d the answer is %q, not %q", size, out, want)
		}
	}
}

// turn changes a text's bytes, which nobody but a test does.
func turn(s string) {
	b := unsafe.Slice(unsafe.StringData(s), len(s))
	for i := range b {
		b[i] ^= 0x15
	}
}

// own is a tree of lists with room behind their ends, all of it its own.
func own() api.Tree {
	x := tree()
	x.Zones, x.Servers = slices.Grow(x.Zones, 3), slices.Grow(x.Servers, 3)
	for i := range x.Zones {
		z := &x.Zones[i]
		z.Origin, z.RRs = strings.Clone(z.Origin), slices.Grow(z.RRs, 3)
		for j := range z.RRs {
			z.RRs[j].Name, z.RRs[j].Data = strings.Clone(z.RRs[j].Name), append(z.RRs[j].Data, "room"...)[:len(z.RRs[j].Data)]
		}
	}
	for i := range x.Servers {
		x.Servers[i].Zones = slices.Grow(x.Servers[i].Zones, 3)
	}
	return x
}

// Memory: the tree that was handed to New is neither changed nor kept.
func TestTreeMemory(t *testing.T) {
	x, was := own(), own()
	s, e := upstream.New(x)
	if e != api.OK {
		t.Fatal(e)
	}
	feeds(t, s, 1, ofBoth, sent(queries()...), told(ofBoth, queries()...))
	for i, z := range x.Zones {
		if z.Origin != was.Zones[i].Origin || len(z.RRs) != len(was.Zones[i].RRs) {
			t.Errorf("zone %d has become %v", i, z)
		}
		for j, r := range z.RRs {
			w := was.Zones[i].RRs[j]
			if r.Name != w.Name || r.Type != w.Type || r.Class != w.Class || r.TTL != w.TTL || !bytes.Equal(r.Data[:len(r.Data)+4], w.Data[:len(w.Data)+4]) {
				t.Errorf("record %d of zone %d has become %v", j, i, r)
			}
			turn(r.Name)
			clear(r.Data)
		}
		for _, r := range z.RRs[len(z.RRs):cap(z.RRs)] {
			if r.Name != "" || r.Data != nil {
				t.Errorf("behind the records of zone %d stands %v", i, r)
			}
		}
		turn(z.Origin)
		clear(z.RRs[:cap(z.RRs)])
	}
	for i, server := range x.Servers {
		if server.Addr != was.Servers[i].Addr || !slices.Equal(server.Zones, was.Servers[i].Zones) {
			t.Errorf("server %d has become %v", i, server)
		}
		for j := range server.Zones[:cap(server.Zones)] {
			server.Zones[:cap(server.Zones)][j] = 99
		}
	}
	clear(x.Zones[:cap(x.Zones)])
	clear(x.Servers[:cap(x.Servers)])
	for _, addr := range addrs {
		feeds(t, s, 1, addr, sent(queries()...), told(addr, queries()...))
	}
}
