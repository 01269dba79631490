package world_test

import (
	"fmt"
	"slices"
	"strings"
	"testing"

	"cicerone/api"
	"cicerone/entry"
	"cicerone/files"
	"cicerone/http"
	"cicerone/name"
	"cicerone/prefix"
	"cicerone/rdata"
	"cicerone/wire"
	"cicerone/world"
)

// Room and bytes of sets that are enough for all, and a type whose data are any bytes.
const (
	room     = 1 << 20
	most     = 1 << 16
	textType = 777
)

// Addresses of the tree's servers: of a zone each, of com. and sub.com., and one that serves nothing. Nobody is at nowhere.
const (
	atRoot = iota + 1
	atCom
	atNet
	atSub
	ofBoth
	ofNone
	nowhere
)

// named is the name of a text.
func named(text string) string {
	n, e := name.Parse(text)
	if e != api.OK {
		panic("no name: " + text)
	}
	return n
}

// of is a question for a text's name.
func of(text string, t int) api.Question {
	return api.Question{Name: named(text), Type: t, Class: api.ClassIN}
}

// record is one of a text's name; host, ns, cname, text and soa are such ones of these types.
func record(owner string, t int, data string) api.RR {
	return api.RR{Name: named(owner), Type: t, Class: api.ClassIN, TTL: 300, Data: []byte(data)}
}

func host(owner string, addr int) api.RR {
	return record(owner, api.TypeA, string([]byte{0, 0, 0, byte(addr)}))
}

func ns(owner, to string) api.RR { return record(owner, api.TypeNS, named(to)) }

func cname(owner, to string) api.RR { return record(owner, api.TypeCNAME, named(to)) }

func text(owner, data string) api.RR { return record(owner, textType, data) }

func soa(owner string) api.RR {
	data, e := rdata.Make(api.SOA{MName: named("m."), RName: named("r."), Serial: 7, Minimum: 60})
	if e != api.OK {
		panic("no SOA")
	}
	return record(owner, api.TypeSOA, string(data))
}

// tree is one that may be: sub.com. lies below com., net.'s server is one of com.'s names.
func tree() api.Tree {
	return api.Tree{
		Zones: []api.Zone{
			{Origin: named("."), RRs: []api.RR{
				soa("."), ns(".", "r."), host("r.", atRoot),
				ns("com.", "ns.com."), host("ns.com.", atCom), ns("com.", "two.com."), host("two.com.", ofBoth),
				ns("net.", "n.com."), cname("to.", "www.com."), text("text.", "root"),
			}},
			{Origin: named("com."), RRs: []api.RR{
				soa("com."), ns("com.", "ns.com."), ns("com.", "two.com."), host("ns.com.", atCom), host("two.com.", ofBoth), host("n.com.", atNet),
				ns("sub.com.", "ns.sub.com."), host("ns.sub.com.", atSub),
				text("www.com.", "www"), text("www.com.", "more"), cname("a.com.", "b.com."), cname("b.com.", "www.com."), cname("out.com.", "www.net."), cname("lost.com.", "not.com."), cname("self.com.", "self.com."),
			}},
			{Origin: named("net."), RRs: []api.RR{soa("net."), ns("net.", "n.com."), text("www.net.", "net"), cname("long.net.", "to.")}},
			{Origin: named("sub.com."), RRs: []api.RR{soa("sub.com."), ns("sub.com.", "ns.sub.com."), host("ns.sub.com.", atSub), text("www.sub.com.", "sub")}},
		},
		Servers: []api.Server{
			{Addr: atRoot, Zones: []int{0}}, {Addr: atCom, Zones: []int{1}}, {Addr: atNet, Zones: []int{2}}, {Addr: atSub, Zones: []int{3}}, {Addr: ofBoth, Zones: []int{1, 3}}, {Addr: ofNone},
		},
	}
}

// single is a tree of the root alone, at these addresses, with some texts.
func single(addrs ...int) api.Tree {
	z := api.Zone{Origin: named("."), RRs: []api.RR{soa("."), ns(".", "r.")}}
	x := api.Tree{}
	for _, addr := range addrs {
		z.RRs = append(z.RRs, host("r.", addr))
		if addr != nowhere {
			x.Servers = append(x.Servers, api.Server{Addr: addr, Zones: []int{0}})
		}
	}
	for i := range 40 {
		z.RRs = append(z.RRs, text(numbered(i), "x"))
	}
	x.Zones = []api.Zone{z}
	return x
}

// numbered is the text of one of many names.
func numbered(i int) string { return fmt.Sprint("t", i, ".") }

// with is a thing, changed.
func with[T any](x T, change func(x *T)) T {
	change(&x)
	return x
}

// query is one with an ID.
func query(id int, q api.Question) api.Message {
	return api.Message{Header: api.Header{ID: id, RD: true}, Questions: []api.Question{q}}
}

// answered is a server's reply with an ID, AA, and answers.
func answered(id int, q api.Question, l ...api.RR) api.Message {
	return api.Message{Header: api.Header{ID: id, Response: true, AA: true}, Questions: []api.Question{q}, Answers: l}
}

// framed is the frames of messages.
func framed(l ...api.Message) []byte {
	var out []byte
	for _, m := range l {
		b, e := wire.Encode(m)
		if e != api.OK {
			panic("a message that can't be")
		}
		f, _ := prefix.Encode(b)
		out = append(out, f...)
	}
	return out
}

// posted is messages as a client by HTTP sends them.
func posted(l ...api.Message) []byte {
	var out []byte
	for i, m := range l {
		b, _ := wire.Encode(m)
		r, _ := http.Ask(b, i%2 == 1)
		out = append(out, r...)
	}
	return out
}

// questions is queries for these, with the IDs 1, 2 and so on.
func questions(l ...api.Question) []api.Message {
	var out []api.Message
	for i, q := range l {
		out = append(out, query(i+1, q))
	}
	return out
}

// many is queries for numbered texts.
func many(from, to int) []api.Message {
	var l []api.Question
	for i := from; i < to; i++ {
		l = append(l, of(numbered(i), textType))
	}
	return questions(l...)
}

// Steps, by what they do.
func open(kind int) api.Step             { return api.Step{Kind: api.StepOpen, N: kind} }
func come(stream int, b []byte) api.Step { return api.Step{Kind: api.StepBytes, N: stream, Bytes: b} }
func push(conn int, l ...api.Message) api.Step {
	return api.Step{Kind: api.StepPush, N: conn, Bytes: framed(l...)}
}
func draws(l ...int) api.Step   { return api.Step{Kind: api.StepDraws, Draws: l} }
func step(kind, n int) api.Step { return api.Step{Kind: kind, N: n} }

var (
	crash = api.Step{Kind: api.StepCrash}
	start = api.Step{Kind: api.StepStart}
)

// made is a world of a tree.
func made(t *testing.T, x api.Tree) *world.World {
	t.Helper()
	return sized(t, x, room, most)
}

// sized is one with room for so many bytes, and sets of so many.
func sized(t *testing.T, x api.Tree, room, most int) *world.World {
	t.Helper()
	w, e := world.New(x, room, most)
	if w == nil || e != api.OK {
		t.Fatalf("New is %v, %d", w, e)
	}
	return w
}

// does does steps that all answer OK.
func does(t *testing.T, w *world.World, l ...api.Step) {
	t.Helper()
	for _, s := range l {
		if e := w.Do(s); e != api.OK {
			t.Fatalf("Do(%.200v) is %d", s, e)
		}
	}
}

// refuses does a step that answers an error, and changes nothing.
func refuses(t *testing.T, w *world.World, s api.Step, want api.Errno) {
	t.Helper()
	was := all(w)
	if e := w.Do(s); e != want {
		t.Errorf("Do(%.200v) is %d, not %d", s, e, want)
	}
	if now := all(w); now != was {
		t.Errorf("with Do(%.200v) the world has become\n%s, not\n%s", s, now, was)
	}
}

// replies takes what a client by frames was sent.
func replies(t *testing.T, w *world.World, stream int) []api.Message {
	t.Helper()
	return decoded(t, w.Out(stream))
}

// decoded is the messages of whole frames.
func decoded(t *testing.T, b []byte) []api.Message {
	t.Helper()
	r := prefix.New()
	var l []api.Message
	for _, body := range r.Feed(b) {
		m, e := wire.Decode(body)
		if e != api.OK {
			t.Fatalf("a reply is %x", body)
		}
		l = append(l, m)
	}
	if r.Left() > 0 {
		t.Fatalf("of a reply there are %d bytes alone", r.Left())
	}
	return l
}

// told asks for the IDs and codes of the replies that a client by frames was sent.
func told(t *testing.T, w *world.World, stream int, want ...[2]int) {
	t.Helper()
	var l [][2]int
	for _, m := range replies(t, w, stream) {
		l = append(l, [2]int{m.ID, m.Code})
	}
	if !slices.Equal(l, want) {
		t.Errorf("stream %d was told %v, not %v", stream, l, want)
	}
}

// is asks how many tasks there are, how many queries were sent, and for the connections.
func is(t *testing.T, w *world.World, busy, sent int, conns ...int) {
	t.Helper()
	if w.Busy() != busy || w.Sent() != sent || !slices.Equal(w.Conns(), conns) {
		t.Errorf("%d are worked on, %d were sent, on %v; not %d, %d, %v", w.Busy(), w.Sent(), w.Conns(), busy, sent, conns)
	}
}

// disk is all that a disk has.
func disk(d *files.Disk) string {
	var s strings.Builder
	for _, n := range d.List() {
		b, _ := d.Read(n)
		fmt.Fprintf(&s, "%s %x %d;", n, b, d.Synced(n))
	}
	return s.String()
}

// left is how many changes a disk that has a fuse still makes: a copy of it is asked.
func left(d *files.Disk) int {
	d = d.Copy()
	for n := range room {
		if d.Sync("") == api.ErrDead {
			return n
		}
	}
	panic("a disk without a fuse")
}

// all is what a world tells without being changed.
func all(w *world.World) string {
	return fmt.Sprintf("%d %t %v %v %v %d %d %s %q", w.Now(), w.Runs(), w.Journal(), w.Accepts(), w.Conns(), w.Busy(), w.Sent(), disk(w.Disk()), fmt.Sprint(w.Store().Sets()))
}

// has asks whether the store has a set, as it is.
func has(w *world.World, s api.Set) bool {
	return slices.ContainsFunc(w.Store().Sets(), func(x api.Set) bool { return entry.Same(x, s) })
}
