package wire_test

import (
	"testing"

	"cicerone/api"
	"cicerone/wire"
)

// writes asks for a message's bytes, and that they are read again.
func writes(t *testing.T, m api.Message, want string) {
	t.Helper()
	b, e := wire.Encode(m)
	if e != api.OK || string(b) != want {
		t.Errorf("Encode(%s) is\n%.90q, %d, not\n%.90q", brief(m), b, e, want)
	}
	if back, e := wire.Decode([]byte(want)); e != api.OK || !wire.Same(back, m) {
		t.Errorf("Decode(%.90q) is %s, %d", want, brief(back), e)
	}
}

// P4.1: the parts in their order, with their numbers.
func TestEncode(t *testing.T) {
	writes(t, api.Message{}, head())
	writes(t, api.Message{Header: api.Header{ID: 1, Response: true, RD: true, RA: true, Code: 3}}, "\x00\x01\x81\x83"+head()[4:])
	writes(t, api.Message{Questions: []api.Question{{Name: join("www", "a"), Type: 0x0102, Class: 0x0304}}},
		head(1)+"\x03www\x01a\x00\x01\x02\x03\x04")
	writes(t, answers(api.RR{Name: "\x00", Type: 0x0102, Class: 0x0304, TTL: 0x05060708, Data: []byte("abc")}),
		head(0, 1)+"\x00\x01\x02\x03\x04\x05\x06\x07\x08\x00\x03abc")
	writes(t, answers(api.RR{Name: "\x00", Type: 65535, Class: 65535, TTL: 1<<32 - 1}),
		head(0, 1)+"\x00\xff\xff\xff\xff\xff\xff\xff\xff\x00\x00")
	long := times(0x1234)
	writes(t, answers(rr("\x00", 99, long)), head(0, 1)+"\x00\x00\x63\x00\x01\x00\x00\x00\x07\x12\x34"+long)
	writes(t, api.Message{
		Questions:  []api.Question{{Name: "\x00", Type: 1, Class: 2}, {Name: "\x00", Type: 3, Class: 4}},
		Answers:    []api.RR{{Name: "\x00", Type: 99, TTL: 1}},
		Authority:  []api.RR{{Name: "\x00", Type: 99, TTL: 2}, {Name: "\x00", Type: 99, TTL: 3}},
		Additional: []api.RR{{Name: "\x00", Type: 99, TTL: 4}, {Name: "\x00", Type: 99, TTL: 5}, {Name: "\x00", Type: 99, TTL: 6}},
	}, head(2, 1, 2, 3)+"\x00\x00\x01\x00\x02"+"\x00\x00\x03\x00\x04"+
		plain(1)+plain(2)+plain(3)+plain(4)+plain(5)+plain(6))
}

// plain is a record of the root, without data.
func plain(ttl int) string { return "\x00\x00\x63\x00\x00\x00\x00" + two(ttl) + "\x00\x00" }

// P4.1: one message with all of it, byte by byte.
func TestEncodeEvery(t *testing.T) {
	in7 := "\x00\x01\x00\x00\x00\x07"
	writes(t, every(), "\x12\x34\x95\x83\x00\x02\x00\x05\x00\x03\x00\x03"+
		"\x03www\x07Example\x00\x00\x01\x00\x01"+ // at 12; Example at 16
		"\x04mail\xc0\x10\x00\xff\xff\xff"+ // at 29
		"\xc0\x0c\x00\x05"+in7+"\x00\x0b\x01w\x07example\x00"+ // w.example at 52
		"\xc0\x34\x00\x01"+in7+"\x00\x04\x7f\x00\x00\x01"+
		"\xc0\x34\x00\x1c"+in7+"\x00\x10"+times(16)+
		"\xc0\x10\x00\x0f"+in7+"\x00\x04\x00\x05\xc0\x1d"+
		"\xc0\x10\x00\x10"+in7+"\x00\x0d\x00\x03abc\x07Example"+
		"\xc0\x10\x00\x02"+in7+"\x00\x05\x02ns\xc0\x10"+ // ns at 160
		"\xc0\x10\x00\x06"+in7+"\x00\x1c\xc0\xa0\x03a.b\xc0\x10"+soa("", "")+
		"\x00\x00\x0c"+in7+"\x00\x01\x00"+
		"\x00\x00\x29\x10\x00\xff\xff\xff\xff\x00\x06\x00\x0a\x00\x02ab"+
		"\xc0\x10\xff\xff\x00\x00\x00\x00\x00\x00\x00\x09\x07Example\x00"+
		"\xc0\x1d\x00\x00\xff\xff\x00\x00\x00\x00\x00\x00")
}

// numbers is what stands between a record's owner and its data.
func numbers(t, size int) string { return two(t) + "\x00\x01\x00\x00\x00\x07" + two(size) }

// P4.1: pointers, where what is left of a name was written ahead.
func TestPointers(t *testing.T) {
	// The document's example.
	m := ask(join("www", "a"))
	m.Answers = []api.RR{rr(join("www", "a"), api.TypeA, "abcd")}
	q := head(1, 1) + "\x03www\x01a\x00\x00\x01\x00\x01"
	writes(t, m, q+"\xc0\x0c"+numbers(1, 4)+"abcd")
	// A name's end, and a name ahead of one that was written.
	m.Answers[0].Name = join("a")
	writes(t, m, q+"\xc0\x10"+numbers(1, 4)+"abcd")
	m.Answers[0].Name = join("b", "www", "a")
	writes(t, m, q+"\x01b\xc0\x0c"+numbers(1, 4)+"abcd")
	m.Answers[0].Name = join("b", "a")
	writes(t, m, q+"\x01b\xc0\x10"+numbers(1, 4)+"abcd")
	// What was written with a pointer at its end counts, too.
	m.Answers = append(m.Answers, rr(join("b", "a"), api.TypeNS, join("c", "b", "a")))
	writes(t, m, head(1, 2)+q[12:]+"\x01b\xc0\x10"+numbers(1, 4)+"abcd"+"\xc0\x17"+numbers(2, 4)+"\x01c\xc0\x17")
	// Another end, and small letters for great ones, are not the same.
	m.Answers = []api.RR{rr(join("www"), api.TypeA, "abcd"), rr(join("www", "A"), api.TypeA, "abcd"), rr(join("WWW", "a"), api.TypeA, "abcd"), rr(join("www", "a", "a"), api.TypeA, "abcd")}
	writes(t, m, head(1, 4)+q[12:]+"\x03www\x00"+numbers(1, 4)+"abcd"+"\x03www\x01A\x00"+numbers(1, 4)+"abcd"+"\x03WWW\xc0\x10"+numbers(1, 4)+"abcd"+"\x03www\x01a\xc0\x10"+numbers(1, 4)+"abcd")
}

// P4.1: the root is never a pointer, nor ends in one.
func TestPointersRoot(t *testing.T) {
	m := ask(join("a"))
	m.Answers = []api.RR{rr("\x00", api.TypeNS, "\x00"), rr(join("b"), api.TypeMX, "\x00\x00\x00")}
	writes(t, m, head(1, 2)+"\x01a\x00\x00\x01\x00\x01"+"\x00"+numbers(2, 1)+"\x00"+"\x01b\x00"+numbers(15, 3)+"\x00\x00\x00")
}

// P4.1: names in data have pointers, and pointers lead there; not so in data of other types.
func TestPointersData(t *testing.T) {
	m := ask(join("a"))
	q := "\x01a\x00\x00\x01\x00\x01"
	for _, typ := range []int{api.TypeNS, api.TypeCNAME, api.TypePTR} {
		m.Answers = []api.RR{rr(join("a"), typ, join("a")), rr(join("a"), typ, join("b", "a")), rr(join("b", "a"), typ, join("b", "a"))}
		writes(t, m, head(1, 3)+q+"\xc0\x0c"+numbers(typ, 2)+"\xc0\x0c"+"\xc0\x0c"+numbers(typ, 4)+"\x01b\xc0\x0c"+"\xc0\x2d"+numbers(typ, 2)+"\xc0\x2d")
	}
	m.Answers = []api.RR{rr(join("a"), api.TypeMX, "\xc0\x0c"+join("b", "a")), rr(join("b", "a"), api.TypeMX, "\x01a"+join("c"))}
	writes(t, m, head(1, 2)+q+"\xc0\x0c"+numbers(15, 6)+"\xc0\x0c\x01b\xc0\x0c"+"\xc0\x21"+numbers(15, 5)+"\x01a\x01c\x00")
	// The second name leads to the first one, and both are led to.
	m.Answers = []api.RR{rr(join("a"), api.TypeSOA, soa(join("b"), join("c", "b"))), rr(join("c", "b"), api.TypeSOA, soa(join("b"), join("b")))}
	writes(t, m, head(1, 2)+q+"\xc0\x0c"+numbers(6, 27)+soa("\x01b\x00", "\x01c\xc0\x1f")+"\xc0\x22"+numbers(6, 24)+soa("\xc0\x1f", "\xc0\x1f"))
	for _, typ := range []int{api.TypeTXT, api.TypeA, api.TypeAAAA, api.TypeOPT, 0, 3, 33, 65535} {
		data := map[int]string{api.TypeTXT: "\x01a\x00", api.TypeA: "\x02ab\x00", api.TypeAAAA: "\x01a\x00" + times(13), api.TypeOPT: "\x00\x01\x00\x03\x01a\x00"}[typ]
		if data == "" {
			data = "\x01b\x00"
		}
		m.Answers = []api.RR{rr(join("a"), typ, data), rr(join("b"), 99, "")}
		writes(t, m, head(1, 2)+q+"\xc0\x0c"+numbers(typ, len(data))+data+"\x01b\x00"+numbers(99, 0))
	}
}

// P4.1: a pointer leads to the first such place.
func TestPointersFirst(t *testing.T) {
	m := ask(join("b", "a"))
	m.Questions = append(m.Questions, api.Question{Name: join("c", "b", "a"), Type: 1, Class: 1}, api.Question{Name: join("c", "b", "a"), Type: 1, Class: 1}, api.Question{Name: join("b", "a"), Type: 1, Class: 1})
	writes(t, m, head(4)+"\x01b\x01a\x00\x00\x01\x00\x01"+"\x01c\xc0\x0c\x00\x01\x00\x01"+"\xc0\x15\x00\x01\x00\x01"+"\xc0\x0c\x00\x01\x00\x01")
}

// upTo is a record that begins a message, so long that what stands behind it begins at a place.
func upTo(place int) (api.RR, string) {
	data := times(place - 12 - 11)
	return rr("\x00", 99, data), "\x00" + numbers(99, len(data)) + data
}

// P4.1: the places to which a pointer can lead end at 16383.
func TestPlaces(t *testing.T) {
	n := join("b", "a")
	a4 := numbers(1, 4) + "abcd"
	record := func(n string) api.RR { return rr(n, api.TypeA, "abcd") }
	for place := 16380; place < 16384; place++ {
		first, bytes := upTo(place)
		whole, end := two(0xc000+place), two(0xc000+place+2)
		if place+2 > 16383 {
			end = "\x01a\x00"
		}
		writes(t, answers(first, record(n), record(n), record(join("c", "b", "a")), record(join("a"))),
			head(0, 5)+bytes+n+a4+whole+a4+"\x01c"+whole+a4+end+a4)
	}
	// From 16384 on nothing counts, however often it is written.
	for _, place := range []int{16384, 16385, 20000, 0xc000, 0xc00c} {
		first, bytes := upTo(place)
		writes(t, answers(first, record(n), record(n), record(join("a"))), head(0, 4)+bytes+n+a4+n+a4+"\x01a\x00"+a4)
	}
	// Beyond it pointers stand all the same, and what they end does not count.
	q := ask(n)
	first, bytes := upTo(20000 - 9)
	q.Answers = []api.RR{first, record(n), record(join("c", "b", "a")), record(join("c", "b", "a"))}
	writes(t, q, head(1, 4)+n+"\x00\x01\x00\x01"+bytes+"\xc0\x0c"+a4+"\x01c\xc0\x0c"+a4+"\x01c\xc0\x0c"+a4)
}

// P4.1: a place counts label by label, so an end's place may count where the name's own does not, and the other way round.
func TestPlacesLabels(t *testing.T) {
	full := times(63)
	n := join(full, full, full)
	first, bytes := upTo(16383 - 64)
	writes(t, answers(first, rr(n, 99, ""), rr(join(full, full), 99, ""), rr(join(full), 99, "")),
		head(0, 4)+bytes+n+numbers(99, 0)+"\xff\xff"+numbers(99, 0)+join(full)+numbers(99, 0))
}

// Long messages: bytes of MaxMessage, and one more.
func TestLong(t *testing.T) {
	for _, x := range []struct {
		size int
		want api.Errno
	}{{65534, api.OK}, {65535, api.OK}, {65536, api.ErrLong}, {65537, api.ErrLong}} {
		a := rr("\x00", 99, times(x.size-12-11))
		n := join("a")
		c := rr(join("b"), api.TypeNS, n)
		tail := rr(n, 99, times(x.size-12-7-(2+10)-(3+10+2)))
		q := ask(n)
		q.Authority, q.Additional = []api.RR{c}, []api.RR{tail}
		for _, m := range append(records(a)[:1], api.Message{Authority: []api.RR{a}}, api.Message{Additional: []api.RR{a}}, q) {
			b, e := wire.Encode(m)
			if e != x.want || !wire.Can(m) || e == api.OK && len(b) != x.size || e != api.OK && len(b) != 0 {
				t.Errorf("%d bytes: Encode tells %d bytes, %d", x.size, len(b), e)
			}
			if e != api.OK {
				continue
			}
			if back, e := wire.Decode(b); e != api.OK || !wire.Same(back, m) {
				t.Errorf("%d bytes: Decode %d", x.size, e)
			}
		}
	}
}

// Data of 65535 bytes can be, but no message has room for them; one byte more can't be.
func TestLongData(t *testing.T) {
	for _, size := range []int{65512, 65513, 65534, 65535, 65536, 65537} {
		want := api.ErrLong
		switch {
		case size <= 65512:
			want = api.OK
		case size > 65535:
			want = api.ErrArg
		}
		for _, m := range records(rr("\x00", 99, times(size)))[:1] {
			if _, e := wire.Encode(m); e != want || wire.Can(m) != (want != api.ErrArg) {
				t.Errorf("data of %d bytes: %d, Can %v", size, e, wire.Can(m))
			}
		}
	}
	// What can't be is told ahead of what is too long.
	long := rr("\x00", 99, times(65535))
	for _, m := range []api.Message{
		answers(long, rr("", 99, "")),
		{Answers: []api.RR{long}, Additional: []api.RR{rr("\x00", api.TypeA, "abc")}},
		{Header: api.Header{ID: -1}, Answers: []api.RR{long}},
		{Questions: []api.Question{{Name: "\x00", Type: -1}}, Answers: []api.RR{long}},
	} {
		if b, e := wire.Encode(m); e != api.ErrArg || len(b) != 0 {
			t.Errorf("Encode tells %d bytes, %d", len(b), e)
		}
	}
}

// Questions alone can be too many, and pointers make room.
func TestLongQuestions(t *testing.T) {
	full := join(times(63), times(63), times(63), times(61))
	m := api.Message{}
	for range 10878 {
		m.Questions = append(m.Questions, api.Question{Name: full, Type: 1, Class: 1})
	}
	b, e := wire.Encode(m)
	if e != api.OK || len(b) != 12+255+4+6*10877 {
		t.Fatalf("%d bytes, %d", len(b), e)
	}
	if back, e := wire.Decode(b); e != api.OK || !wire.Same(back, m) {
		t.Errorf("Decode %d", e)
	}
	m.Questions = append(m.Questions, m.Questions[0])
	if b, e := wire.Encode(m); e != api.ErrLong || len(b) != 0 || !wire.Can(m) {
		t.Errorf("%d bytes, %d", len(b), e)
	}
}
