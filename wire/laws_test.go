package wire_test

import (
	"math/rand/v2"
	"slices"
	"strings"
	"testing"

	"cicerone/api"
	"cicerone/name"
	"cicerone/rdata"
	"cicerone/wire"
)

// drawnName is a name of few labels, so that names have the same ends; long, if it is asked for.
func drawnName(r *rand.Rand, long bool) string {
	n := "\x00"
	for range r.IntN(5) {
		label := []string{"a", "b", "A", "c\x00", "\xc0\x0c"}[r.IntN(5)]
		if long {
			label += times(r.IntN(62))
		}
		if 1+len(label)+len(n) <= api.MaxName {
			n = string([]byte{byte(len(label))}) + label + n
		}
	}
	return n
}

// drawnData is data of a type.
func drawnData(r *rand.Rand, t int, long bool) string {
	switch t {
	case api.TypeA:
		return times(4)
	case api.TypeAAAA:
		return times(16)
	case api.TypeNS, api.TypeCNAME, api.TypePTR:
		return drawnName(r, long)
	case api.TypeMX:
		return two(r.IntN(65536)) + drawnName(r, long)
	case api.TypeSOA:
		return soa(drawnName(r, long), drawnName(r, long))
	case api.TypeTXT:
		return "\x02ab" + strings.Repeat("\x01c", r.IntN(3))
	case api.TypeOPT:
		return strings.Repeat("\x00\x01\x00\x02\xc0\x0c", r.IntN(3))
	}
	return times(r.IntN(20))
}

// drawn is a message.
func drawn(r *rand.Rand, long bool) api.Message {
	m := api.Message{Header: api.Header{ID: r.IntN(65536), Response: r.IntN(2) > 0, Opcode: r.IntN(16), AA: r.IntN(2) > 0, TC: r.IntN(2) > 0, RD: r.IntN(2) > 0, RA: r.IntN(2) > 0, Code: r.IntN(16)}}
	for range r.IntN(3) {
		m.Questions = append(m.Questions, api.Question{Name: drawnName(r, long), Type: r.IntN(65536), Class: r.IntN(65536)})
	}
	for _, l := range []*[]api.RR{&m.Answers, &m.Authority, &m.Additional} {
		for range r.IntN(4) {
			t := []int{api.TypeA, api.TypeNS, api.TypeCNAME, api.TypeSOA, api.TypePTR, api.TypeMX, api.TypeTXT, api.TypeAAAA, api.TypeOPT, 0, 99, 65535}[r.IntN(12)]
			*l = append(*l, api.RR{Name: drawnName(r, long), Type: t, Class: r.IntN(65536), TTL: int(r.Uint32()), Data: []byte(drawnData(r, t, long))})
		}
	}
	return m
}

// A written is a name's end that was written, and its place.
type written struct {
	n  string
	at int
}

// plainWriter writes by going through all that was written.
type plainWriter struct {
	b string
	l []written
}

func (w *plainWriter) name(n string) {
	for n != "\x00" {
		for _, x := range w.l {
			if x.n == n {
				w.b += two(0xc000 + x.at)
				return
			}
		}
		if len(w.b) < 16384 {
			w.l = append(w.l, written{n, len(w.b)})
		}
		w.b += n[:1+n[0]]
		n, _ = name.Parent(n)
	}
	w.b += "\x00"
}

// plainly is a message's bytes behind its header.
func plainly(m api.Message) string {
	w := plainWriter{b: head()}
	for _, q := range m.Questions {
		w.name(q.Name)
		w.b += two(q.Type) + two(q.Class)
	}
	for _, r := range slices.Concat(m.Answers, m.Authority, m.Additional) {
		w.name(r.Name)
		w.b += two(r.Type) + two(r.Class) + two(r.TTL>>16) + two(r.TTL&0xffff) + "??"
		at, data := len(w.b), string(r.Data)
		if r.Type == api.TypeMX {
			w.b, data = w.b+data[:2], data[2:]
		}
		for _, n := range rdata.Names(r.Type, r.Data) {
			w.name(n)
			data = data[len(n):]
		}
		w.b += data
		w.b = w.b[:at-2] + two(len(w.b)-at) + w.b[at:]
	}
	return w.b[12:]
}

// P4.1, P4.3: messages of all makes are written as the document says, and read again.
func TestDrawn(t *testing.T) {
	r := rand.New(rand.NewPCG(1, 2))
	for i := range 5000 {
		m := drawn(r, i%4 == 0)
		b, e := wire.Encode(m)
		if e != api.OK || len(b) < 12 || string(b[12:]) != plainly(m) {
			t.Fatalf("Encode(%s) is %.90q, %d", brief(m), b, e)
		}
		if back, e := wire.Decode(b); e != api.OK || !wire.Same(back, m) {
			t.Fatalf("Decode of Encode(%s) is %s, %d", brief(m), brief(back), e)
		}
	}
}

// P4.1: names of which many have the same end, around the last place to which a pointer can lead.
func TestDrawnPlaces(t *testing.T) {
	r := rand.New(rand.NewPCG(3, 4))
	for range 200 {
		first, _ := upTo(16384 - r.IntN(60))
		m := answers(first)
		for range 12 {
			m.Answers = append(m.Answers, rr(drawnName(r, false), api.TypeNS, drawnName(r, false)))
		}
		b, e := wire.Encode(m)
		if e != api.OK || string(b[12:]) != plainly(m) {
			t.Fatalf("Encode(.. %s) is .. %q, %d", brief(answers(m.Answers[1:]...)), b[16300:], e)
		}
		if back, e := wire.Decode(b); e != api.OK || !wire.Same(back, m) {
			t.Fatalf("Decode of Encode(.. %s): %d", brief(answers(m.Answers[1:]...)), e)
		}
	}
}

// plainName reads a name at a place, of bytes that end, behind labels that were read; short is told where the bytes end too early. It tells where it goes on behind the name, too.
func plainName(b string, at int, n string, short api.Errno) (string, int, api.Errno) {
	began := at
	for at < len(b) {
		c := int(b[at])
		switch {
		case c == 0:
			return n + "\x00", at + 1, api.OK
		case c < 64 && at+1+c > len(b), c >= 192 && at+1 == len(b):
			return "", 0, short
		case c < 64:
			n, at = n+b[at:at+1+c], at+1+c
			if len(n) > 254 {
				return "", 0, api.ErrName
			}
		case c < 192:
			return "", 0, api.ErrLabel
		default:
			place := c%64*256 + int(b[at+1])
			if place >= began {
				return "", 0, api.ErrPointer
			}
			n, _, e := plainName(b, place, n, short)
			if e != api.OK {
				return "", 0, e
			}
			return n, at + 2, api.OK
		}
	}
	return "", 0, short
}

// plainData reads data of a type that stand from a place on, to another one.
func plainData(b string, typ, from, to int) (string, api.Errno) {
	data, at, names := "", from, map[int]int{api.TypeNS: 1, api.TypeCNAME: 1, api.TypePTR: 1, api.TypeMX: 1, api.TypeSOA: 2}[typ]
	if typ == api.TypeMX {
		if to-from < 2 {
			return "", api.ErrData
		}
		data, at = b[from:from+2], from+2
	}
	for range names {
		n, next, e := plainName(b[:to], at, "", api.ErrData)
		if e != api.OK {
			return "", e
		}
		data, at = data+n, next
	}
	data += b[at:to]
	if !rdata.Can(typ, []byte(data)) {
		return "", api.ErrData
	}
	return data, api.OK
}

// plainNumber is that of some bytes.
func plainNumber(b string) int {
	n := 0
	for i := range len(b) {
		n = n*256 + int(b[i])
	}
	return n
}

// plainMessage is what bytes have behind their header, without it: its first four bytes are 0.
func plainMessage(b string) (api.Message, api.Errno) {
	var m api.Message
	at := 12
	for range plainNumber(b[4:6]) {
		n, next, e := plainName(b, at, "", api.ErrShort)
		if e != api.OK {
			return api.Message{}, e
		}
		if at = next + 4; at > len(b) {
			return api.Message{}, api.ErrShort
		}
		m.Questions = append(m.Questions, api.Question{Name: n, Type: plainNumber(b[next : next+2]), Class: plainNumber(b[next+2 : next+4])})
	}
	for i, l := range []*[]api.RR{&m.Answers, &m.Authority, &m.Additional} {
		for range plainNumber(b[6+2*i : 8+2*i]) {
			n, next, e := plainName(b, at, "", api.ErrShort)
			if e != api.OK {
				return api.Message{}, e
			}
			from := next + 10
			if from > len(b) || from+plainNumber(b[next+8:from]) > len(b) {
				return api.Message{}, api.ErrShort
			}
			at = from + plainNumber(b[next+8:from])
			typ := plainNumber(b[next : next+2])
			data, e := plainData(b, typ, from, at)
			if e != api.OK {
				return api.Message{}, e
			}
			*l = append(*l, api.RR{Name: n, Type: typ, Class: plainNumber(b[next+2 : next+4]), TTL: plainNumber(b[next+4 : next+8]), Data: []byte(data)})
		}
	}
	if at < len(b) {
		return api.Message{}, api.ErrTrail
	}
	return m, api.OK
}

// asPlain asks that bytes are read as the document says, and that what was read can be written (P4.4). It tells the error.
func asPlain(t *testing.T, b string) api.Errno {
	t.Helper()
	want, wrong := plainMessage(b)
	m, e := wire.Decode([]byte(b))
	if e != wrong || !wire.Same(m, want) {
		t.Fatalf("Decode(%q) is %s, %d, not %s, %d", b, brief(m), e, brief(want), wrong)
	}
	if e != api.OK {
		return e
	}
	if !wire.Can(m) {
		t.Fatalf("Decode(%q) is %s, which can't be", b, brief(m))
	}
	again, e := wire.Encode(m)
	if e == api.ErrLong {
		return api.OK
	}
	if back, e2 := wire.Decode(again); e != api.OK || e2 != api.OK || !wire.Same(back, m) {
		t.Fatalf("Decode(%q) is %s, and is written as %q, %d, %d", b, brief(m), again, e, e2)
	}
	return api.OK
}

// changed is bytes with one place, or some, of them another one.
func changed(r *rand.Rand, b string) string {
	l := []byte(b)
	for range 1 + r.IntN(3) {
		at := 4 + r.IntN(len(l)-4)
		switch r.IntN(6) {
		case 0:
			l[at] = byte(r.IntN(256))
		case 1:
			l[at] = "\x00\x01\x02\x04\x3f\x40\xbf\xc0\xc1\xff"[r.IntN(10)]
		case 2:
			l[at]++
		case 3:
			l[at]--
		case 4:
			l = slices.Delete(l, at, min(len(l), at+1+r.IntN(3)))
		case 5:
			l = slices.Insert(l, at, []byte{byte(0xc0), byte(r.IntN(len(l)))}...)
		}
		for len(l) < 13 {
			l = append(l, 0)
		}
	}
	return string(l)
}

// P4.2, P4.4: bytes that are nearly a message.
func TestChanged(t *testing.T) {
	r := rand.New(rand.NewPCG(5, 6))
	met := map[api.Errno]int{}
	for i := range 60000 {
		m := drawn(r, i%8 == 0)
		m.Header = api.Header{}
		b, e := wire.Encode(m)
		if e != api.OK {
			t.Fatalf("Encode(%s): %d", brief(m), e)
		}
		if len(b) > 12 {
			met[asPlain(t, changed(r, string(b)))]++
		}
	}
	for _, e := range []api.Errno{api.OK, api.ErrLabel, api.ErrShort, api.ErrData, api.ErrPointer, api.ErrTrail} {
		if met[e] < 50 {
			t.Errorf("error %d was met %d times", e, met[e])
		}
	}
}

// P4.2, P4.4: bytes of questions and of a record of each type with names, of what names are made of.
func TestDrawnBytes(t *testing.T) {
	r := rand.New(rand.NewPCG(7, 8))
	parts := []string{"\x00", "\x01a", "\x02bc", "\x3f" + times(63), "\xc0", "\xc0\x0c", "\xc0\x0e", "\xc0\x1b", "\xc0\x1c", "\xc0\x20", "\x40", "\x05", "\x00\x00\x00\x00"}
	draw := func() string {
		b := ""
		if r.IntN(8) == 0 {
			b = strings.Repeat(parts[1+r.IntN(3)], r.IntN(5))
			b = strings.Repeat(b, 1+r.IntN(32))
		}
		for range r.IntN(7) {
			b += parts[r.IntN(len(parts))]
		}
		return b
	}
	met := map[api.Errno]int{}
	for range 100000 {
		data := draw()
		typ := []int{api.TypeNS, api.TypeCNAME, api.TypePTR, api.TypeMX, api.TypeSOA, 99}[r.IntN(6)]
		if typ == api.TypeSOA {
			data += soa("", "")
		}
		met[asPlain(t, head(1, 1)+draw()+"\x00\x01\x00\x01"+draw()+numbers(typ, len(data))+data)]++
		met[asPlain(t, head(0, 2)+join("a", "b")+numbers(typ, len(data))+data+draw()+numbers(99, 0))]++
		met[asPlain(t, head(2)+draw()+draw()+draw())]++
	}
	for _, e := range []api.Errno{api.OK, api.ErrLabel, api.ErrName, api.ErrShort, api.ErrData, api.ErrPointer, api.ErrTrail} {
		if met[e] < 50 {
			t.Errorf("error %d was met %d times", e, met[e])
		}
	}
}

// Any bytes: no call panics.
func TestAnyBytes(t *testing.T) {
	r := rand.New(rand.NewPCG(9, 10))
	for range 50000 {
		b := make([]byte, r.IntN(60))
		for i := range b {
			b[i] = "\x00\x00\x00\x01\x02\x05\xc0\x0c\x0d\xff"[r.IntN(10)]
		}
		m, e := wire.Decode(b)
		if e == api.OK && !wire.Can(m) || e != api.OK && !wire.Same(m, api.Message{}) {
			t.Fatalf("Decode(%q) is %s, %d", b, brief(m), e)
		}
	}
}
