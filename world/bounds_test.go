package world_test

import (
	"slices"
	"testing"

	"cicerone/api"
)

// P5: no server has more than MaxConns connections, no connection more than MaxOpen questions, however many are asked, dropped or given up.
func TestBounds(t *testing.T) {
	w := made(t, single(1))
	for i := range 4 {
		does(t, w, open(1))
		for j := range 3 {
			does(t, w, come(1+i, framed(many(9*i+3*j, 9*i+3*j+3)...)))
			if len(w.Conns()) > api.MaxConns || w.Busy() > api.MaxConns*api.MaxOpen {
				t.Errorf("%d questions are open on %v", w.Busy(), w.Conns())
			}
		}
	}
	is(t, w, 8, 8, 1, 2)
	does(t, w, step(api.StepDrop, 1))
	is(t, w, 4, 8, 2)
	// The other connection is full, so a new one is dialled, and that is all.
	does(t, w, open(1), come(5, framed(many(20, 30)...)))
	is(t, w, 8, 12, 2, 3)
	// Given up, they are open no more, though the connections are still there.
	does(t, w, step(api.StepTick, 10))
	is(t, w, 0, 12, 2, 3)
	does(t, w, come(5, framed(many(0, 10)...)))
	is(t, w, 8, 20, 2, 3)
}

// P5: a question sends at most MaxWork queries.
func TestMaxWork(t *testing.T) {
	var addrs []int
	for i := range 30 {
		addrs = append(addrs, 100+i)
	}
	x := single(addrs...)
	x.Servers = nil
	w := made(t, x)
	does(t, w, open(1), come(1, framed(many(0, 1)...)))
	for i := range api.MaxWork {
		is(t, w, 1, i+1, i+1)
		does(t, w, step(api.StepSettle, 1))
	}
	is(t, w, 0, api.MaxWork)
	told(t, w, 1, [2]int{1, api.CodeServer})
	does(t, w, step(api.StepSettle, 5))
	is(t, w, 0, api.MaxWork)
	// Of queries that the pool refuses each counts as work, too, but none is sent.
	w = made(t, x)
	does(t, w, open(1), come(1, framed(many(0, 16)...)))
	for w.Busy() > 0 {
		sent := w.Sent()
		does(t, w, step(api.StepSettle, 1))
		if w.Sent() > 16*api.MaxWork || w.Sent() == sent && w.Busy() > 0 {
			t.Fatalf("%d were sent", w.Sent())
		}
	}
	l := replies(t, w, 1)
	if len(l) != 16 || slices.ContainsFunc(l, func(m api.Message) bool { return m.Code != api.CodeServer }) {
		t.Errorf("the replies are %v", l)
	}
}

// P5: aliases, delegations and servers without addresses beyond the limits: each question ends.
func TestLimits(t *testing.T) {
	x := single(1)
	z := &x.Zones[0]
	z.RRs = slices.DeleteFunc(z.RRs, func(r api.RR) bool { return r.Type == textType })
	for i := range 10 {
		z.RRs = append(z.RRs, cname(numbered(i), numbered(i+1)))
	}
	z.RRs = append(z.RRs, text(numbered(10), "end"))
	w := made(t, x)
	does(t, w, open(1))
	for i := range 10 {
		does(t, w, come(1, framed(query(i, of(numbered(9-i), textType)))), step(api.StepSettle, 5))
		code := api.CodeOK
		if 9-i < 10-api.MaxChain {
			code = api.CodeServer
		}
		told(t, w, 1, [2]int{i, code})
	}
	is(t, w, 0, w.Sent(), 1)

	// Zones whose servers lie in one another.
	x = single(1)
	for _, o := range []string{"a.", "b."} {
		host := map[string]string{"a.": "ns.b.", "b.": "ns.a."}[o]
		x.Zones[0].RRs = append(x.Zones[0].RRs, ns(o, host))
		x.Zones = append(x.Zones, api.Zone{Origin: named(o), RRs: []api.RR{soa(o), ns(o, host), text("x."+o, "x")}})
	}
	w = made(t, x)
	does(t, w, open(1), come(1, framed(query(1, of("x.a.", textType)))), step(api.StepSettle, 30))
	told(t, w, 1, [2]int{1, api.CodeServer})
	if w.Busy() != 0 || w.Sent() > api.MaxWork {
		t.Errorf("%d were sent, %d are worked on", w.Sent(), w.Busy())
	}
}

// P5: the disk has at most its room, however often sets expire and are put again.
func TestRoom(t *testing.T) {
	for _, size := range []int{48, 100, 500, 2000, 9000, 40000} {
		for _, most := range []int{0, 300, 4000} {
			w := sized(t, single(1), size, most)
			does(t, w, open(1))
			for i := range 200 {
				does(t, w, come(1, framed(many(i%40, i%40+1)...)), step(api.StepSettle, 1), step(api.StepTick, 20))
				if w.Disk().Used() > size || w.Store().Bytes() > most {
					t.Fatalf("with room for %d bytes the disk has %d, with %d for sets the store %d", size, w.Disk().Used(), most, w.Store().Bytes())
				}
			}
			does(t, w, crash, start)
		}
	}
}

// P1: what can't be read changes nothing that is cached, nor anything but what the client is told.
func TestNoise(t *testing.T) {
	w := made(t, tree())
	does(t, w, open(1), open(1), open(2), come(1, framed(query(1, www))), step(api.StepSettle, 5), come(1, framed(query(2, of("out.com.", textType)))))
	sets, accepts := len(w.Store().Sets()), len(w.Accepts())
	good := framed(answered(0, of("out.com.", textType), cname("out.com.", "www.com.")))
	was := disk(w.Disk())
	for i := range good {
		bad := slices.Clone(good)
		bad[i] ^= 0x80
		v := made(t, tree())
		does(t, v, open(1), come(1, framed(query(1, www))), step(api.StepSettle, 5), come(1, framed(query(2, of("out.com.", textType)))))
		does(t, v, api.Step{Kind: api.StepPush, N: 2, Bytes: bad[:len(bad)-1]})
		if len(v.Store().Sets()) != sets || len(v.Accepts()) != accepts || disk(v.Disk()) != was {
			t.Errorf("with byte %d turned the store has %v", i, v.Store().Sets())
		}
	}
	for _, s := range []api.Step{
		come(2, []byte("\x00\x0c123456789012")), come(2, framed(api.Message{}, query(1, of("x.", 0)))), come(2, []byte("\x00\x01x")), come(3, []byte("GET / HTTP/1.1\r\n\r\n")),
		{Kind: api.StepPush, N: 1, Bytes: good}, {Kind: api.StepPush, N: 2, Bytes: []byte("\x00\x0c123456789012\x00\x00\x00\x01x")}, push(2, answered(0, www, text("www.com.", "lie")), answered(7, of("out.com.", textType), text("out.com.", "lie"))),
	} {
		does(t, w, s)
		if len(w.Store().Sets()) != sets || len(w.Accepts()) != accepts || disk(w.Disk()) != was {
			t.Errorf("with %v the store has %v", s, w.Store().Sets())
		}
	}
	does(t, w, step(api.StepSettle, 9))
	told(t, w, 1, [2]int{1, 0}, [2]int{2, 0})
}
