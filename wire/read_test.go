package wire_test

import (
	"strings"
	"testing"

	"cicerone/api"
	"cicerone/wire"
)

// reads asks for the message of bytes, and that it can be written, and is read again then (P4.4).
func reads(t *testing.T, b string, want api.Message) {
	t.Helper()
	m, e := wire.Decode([]byte(b))
	if e != api.OK || !wire.Same(m, want) {
		t.Errorf("Decode(%.90q) is %s, %d, not %s", b, brief(m), e, brief(want))
	}
	canBe(t, want, true)
}

// fails asks that bytes are no message, for this reason, and that nothing else is told.
func fails(t *testing.T, b string, want api.Errno) {
	t.Helper()
	m, e := wire.Decode([]byte(b))
	if e != want || !wire.Same(m, api.Message{}) {
		t.Errorf("Decode(%.90q) is %s, %d, not %d", b, brief(m), e, want)
	}
	// What stands in the room behind the bytes is none of them.
	room := []byte(b + strings.Repeat("\x00", 300))
	if _, e := wire.Decode(room[:len(b)]); e != want {
		t.Errorf("Decode(%.90q) with room behind it is %d, not %d", b, e, want)
	}
}

// asked is bytes of questions with these bytes for names.
func asked(names ...string) string {
	b := head(len(names))
	for _, n := range names {
		b += n + "\x00\x01\x00\x01"
	}
	return b
}

// question is a message of questions with these names.
func question(names ...string) api.Message {
	var m api.Message
	for _, n := range names {
		m.Questions = append(m.Questions, api.Question{Name: n, Type: 1, Class: 1})
	}
	return m
}

// P4.2: header.Decode's errors, and MaxMessage ahead of them.
func TestDecodeHeader(t *testing.T) {
	fails(t, "", api.ErrShort)
	if m, e := wire.Decode(nil); e != api.ErrShort || !wire.Same(m, api.Message{}) {
		t.Errorf("Decode(nil) is %d", e)
	}
	for n := range 12 {
		fails(t, head(1)[:n], api.ErrShort)
		fails(t, strings.Repeat("\xff", n), api.ErrShort)
	}
	reads(t, head(), api.Message{})
	for _, bit := range []string{"\x10", "\x20", "\x40", "\x70", "\xff"} {
		fails(t, "\x00\x00\x00"+bit+head(1)[4:], api.ErrBits)
		fails(t, "\x00\x00\x00"+bit+head()[4:]+"\x00", api.ErrBits)
	}
	for n := range 4 {
		counts := make([]int, 4)
		counts[n] = 1
		fails(t, head(counts...), api.ErrShort)
		counts[n] = 65535
		fails(t, head(counts...), api.ErrShort)
	}
	fails(t, head()+"\x00", api.ErrTrail)
	fails(t, head()+times(65535-12), api.ErrTrail)
	for _, b := range []string{head() + times(65536-12), strings.Repeat("\xff", 65536), times(1 << 20), asked("\x00") + times(65536)} {
		fails(t, b, api.ErrLong)
	}
	reads(t, head(0, 1)+"\x00"+numbers(99, 65512)+times(65512), answers(rr("\x00", 99, times(65512))))
	fails(t, head(0, 1)+"\x00"+numbers(99, 65513)+times(65512), api.ErrShort)
	fails(t, head(0, 1)+"\x00"+numbers(99, 65511)+times(65512), api.ErrTrail)
	fails(t, head(0, 1)+"\x00"+numbers(99, 65513)+times(65513), api.ErrLong)
}

// P4.2: parts go to their sections, with all their numbers as they stand.
func TestDecode(t *testing.T) {
	m := api.Message{
		Header:     api.Header{ID: 0xfedc, Response: true, Opcode: 9, TC: true, RA: true, Code: 5},
		Questions:  []api.Question{{Name: join("q"), Type: 0x0102, Class: 0x0304}, {Name: "\x00", Type: 65535, Class: 0}},
		Answers:    []api.RR{{Name: join("an"), Type: 0x0506, Class: 0x0708, TTL: 0x090a0b0c, Data: []byte("xyz")}},
		Authority:  []api.RR{{Name: join("au"), Type: 0, Class: 65535, TTL: 1<<32 - 1}, {Name: "\x00", Type: 1, TTL: 1 << 31, Data: []byte("abcd")}},
		Additional: []api.RR{{Name: "\x00", Type: 41, Class: 512, Data: []byte("\x00\x01\x00\x00")}, {Name: "\x00", Type: 65535, Data: []byte("\xc0\x0c")}, {Name: "\x00", Type: 16, Data: []byte("\x00")}},
	}
	reads(t, "\xfe\xdc\xca\x85\x00\x02\x00\x01\x00\x02\x00\x03"+
		"\x01q\x00\x01\x02\x03\x04"+"\x00\xff\xff\x00\x00"+
		"\x02an\x00\x05\x06\x07\x08\x09\x0a\x0b\x0c\x00\x03xyz"+
		"\x02au\x00\x00\x00\xff\xff\xff\xff\xff\xff\x00\x00"+"\x00\x00\x01\x00\x00\x80\x00\x00\x00\x00\x04abcd"+
		"\x00\x00\x29\x02\x00\x00\x00\x00\x00\x00\x04\x00\x01\x00\x00"+"\x00\xff\xff\x00\x00\x00\x00\x00\x00\x00\x02\xc0\x0c"+"\x00\x00\x10\x00\x00\x00\x00\x00\x00\x00\x01\x00", m)
}

// P4.2: bytes that end anywhere within a message are too short, but where an end is missing in data that are all there.
func TestDecodeCut(t *testing.T) {
	b, _ := wire.Encode(every())
	for n := range len(b) {
		fails(t, string(b[:n]), api.ErrShort)
	}
	fails(t, string(b)+"\x00", api.ErrTrail)
	fails(t, string(b)+string(b), api.ErrTrail)
}

// P4.2: how a name is read, of questions and of owners.
func TestDecodeNames(t *testing.T) {
	full := times(63)
	longest := join(full, full, full, times(61))
	for _, n := range []string{"\x00", join("a"), join("a.b", "\x00\xff\xc0\x0c"), join(full), longest, strings.Repeat("\x01a", 127) + "\x00"} {
		reads(t, asked(n), question(n))
		reads(t, head(0, 1)+n+numbers(99, 0), answers(rr(n, 99, "")))
		for size := range len(n) {
			fails(t, head(1)+n[:size], api.ErrShort)
			fails(t, head(0, 1)+n[:size], api.ErrShort)
		}
		for size := range 4 {
			fails(t, head(1)+n+times(size), api.ErrShort)
		}
		for size := range 10 {
			fails(t, head(0, 1)+n+times(size), api.ErrShort)
		}
	}
	for c := 0x40; c < 0xc0; c++ {
		bad := string([]byte{byte(c)})
		fails(t, head(1)+bad, api.ErrLabel)
		fails(t, asked(bad+times(c)+"\x00"), api.ErrLabel)
		fails(t, asked("\x01a"+bad), api.ErrLabel)
		fails(t, asked(join("a"), "\x01b"+bad), api.ErrLabel)
		fails(t, head(0, 1)+bad+numbers(99, 0), api.ErrLabel)
		// Behind a pointer, too.
		fails(t, head(0, 2)+"\x00"+numbers(99, 1)+bad+"\xc0\x17"+numbers(99, 0), api.ErrLabel)
	}
	// What ends within a label is too short, whatever the name would be.
	for _, n := range []string{"\x01", "\x03ab", "\x3f" + times(62), longest[:254] + "\x01", longest[:254] + "\x3f" + times(62), strings.Repeat("\x01a", 126) + "\x02a"} {
		fails(t, head(1)+n, api.ErrShort)
		fails(t, head(0, 0, 0, 1)+n, api.ErrShort)
	}
}

// P4.2: names of MaxName bytes, and one more.
func TestDecodeLong(t *testing.T) {
	full := times(63)
	for _, n := range []string{
		join(full, full, full, times(62)),
		join(times(62), full, full, full),
		"\x02aa" + strings.Repeat("\x01a", 126) + "\x00",
		strings.Repeat("\x01a", 128) + "\x00",
		strings.Repeat("\x3f"+full, 4),
		strings.Repeat("\x3f"+full, 1000),
		strings.Repeat("\x01a", 30000),
	} {
		fails(t, asked(n), api.ErrName)
		fails(t, head(0, 1)+n+numbers(99, 0), api.ErrName)
		// What stands behind the label by which it is too long is not read.
		fails(t, asked(n[:len(n)-1]+"\x40"), api.ErrName)
		fails(t, asked(n[:len(n)-1]+"\xff\xff"), api.ErrName)
	}
	// A label that can't be, or a pointer, ahead of it is told first.
	fails(t, asked("\x40"+strings.Repeat("\x3f"+full, 4)), api.ErrLabel)
	fails(t, asked("\xc0\x0c"+strings.Repeat("\x3f"+full, 4)), api.ErrPointer)
}

// P4.2: names of MaxName bytes, and one more, with a pointer.
func TestDecodeLongPointers(t *testing.T) {
	full := times(63)
	end := join(full, full, full) // 193 bytes, at 12
	reads(t, asked(end, "\x3d"+times(61)+"\xc0\x0c"), question(end, join(times(61), full, full, full)))
	fails(t, asked(end, "\x3e"+times(62)+"\xc0\x0c"), api.ErrName)
	fails(t, asked(end, "\x3f"+full+"\xc0\x0c"), api.ErrName)
	fails(t, asked(end, strings.Repeat("\x01a", 32)+"\xc0\x0c"), api.ErrName)
	reads(t, asked(end, strings.Repeat("\x01a", 31)+"\xc0\x0c"), question(end, strings.Repeat("\x01a", 31)+end))
	// The name of 255 bytes, and a pointer to it with nothing ahead, with a label ahead, and behind its first label.
	longest := join(full, full, full, times(61))
	reads(t, asked(longest, "\xc0\x0c"), question(longest, longest))
	fails(t, asked(longest, "\x01a\xc0\x0c"), api.ErrName)
	reads(t, asked(longest, "\x3f"+times(63)+"\xc0\x4c"), question(longest, longest))
	// By two pointers.
	reads(t, asked(join(full, full), "\x3f"+full+"\xc0\x0c", "\x3d"+times(61)+"\xc0\x91"), question(join(full, full), join(full, full, full), join(times(61), full, full, full)))
	fails(t, asked(join(full, full), "\x3f"+full+"\xc0\x0c", "\x3e"+times(62)+"\xc0\x91"), api.ErrName)
	// In data, too.
	in := func(n string) string {
		return head(1, 1) + end + "\x00\x01\x00\x01\x00" + numbers(2, len(n)) + n
	}
	m := question(end)
	m.Answers = []api.RR{rr("\x00", 2, join(times(61), full, full, full))}
	reads(t, in("\x3d"+times(61)+"\xc0\x0c"), m)
	fails(t, in("\x3e"+times(62)+"\xc0\x0c"), api.ErrName)
}

// P4.2: where a pointer may lead.
func TestDecodePointers(t *testing.T) {
	a, ba := join("a"), join("b", "a")
	reads(t, asked(a, "\xc0\x0c"), question(a, a))
	reads(t, asked(a, "\x01b\xc0\x0c"), question(a, ba))
	reads(t, asked(ba, "\xc0\x0e"), question(ba, a))
	reads(t, asked(ba, "\xc0\x10"), question(ba, "\x00"))
	// To a pointer, and to another one again.
	reads(t, asked(a, "\xc0\x0c", "\xc0\x13", "\xc0\x19"), question(a, a, a, a))
	reads(t, asked(a, "\x01b\xc0\x0c", "\x01c\xc0\x13", "\x01d\xc0\x1b"), question(a, ba, join("c", "b", "a"), join("d", "c", "b", "a")))
	reads(t, asked(a, "\x01b\xc0\x0c", "\xc0\x15"), question(a, ba, a))
	// To any place ahead: into the header, where the count of questions is a label, and into a label.
	for place := range 12 {
		want := "\x00"
		if place == 5 {
			want = join("\x00")
		}
		reads(t, asked("\xc0"+string([]byte{byte(place)})), question(want))
	}
	reads(t, asked("\x03x\x01y\x00", "\xc0\x0e"), question("\x03x\x01y\x00", join("y")))
	// To itself, and ahead.
	for _, n := range []string{"\xc0\x0c", "\xc0\x0d", "\xc0\x0e", "\xc0\xff", "\xff\xff", "\xc1\x0c", "\x01a\xc0\x0c", "\x01a\xc0\x0d", "\x01a\xc0\x0e", "\x01a\xc0\x10", "\x01a\x01b\xc0\x0e"} {
		fails(t, asked(n), api.ErrPointer)
		fails(t, head(1)+n, api.ErrPointer)
		fails(t, head(0, 1)+n+numbers(99, 0), api.ErrPointer)
	}
	// All bytes from c0 on begin a pointer; without its second byte it is too short.
	for c := 0xc0; c <= 0xff; c++ {
		first := string([]byte{byte(c)})
		fails(t, head(1)+first, api.ErrShort)
		fails(t, head(1)+"\x01a"+first, api.ErrShort)
		fails(t, asked(first+"\x0c"), api.ErrPointer)
		if c > 0xc0 {
			fails(t, asked(a, first+"\x0c"), api.ErrPointer)
		}
	}
}

// P4.2: behind a pointer the place to which it led counts, not that of the name itself.
func TestDecodePointersBehind(t *testing.T) {
	a := join("a")
	// Data at 23 have pointers of their own: to themselves, ahead, to each other, back.
	data := func(d string, more string) string {
		return head(0, 2) + "\x00" + numbers(99, len(d)) + d + more + numbers(99, 0)
	}
	m := answers(rr("\x00", 99, "\x01a\x00"), rr(a, 99, ""))
	reads(t, data("\x01a\x00", "\xc0\x17"), m)
	fails(t, data("\xc0\x17", "\xc0\x17"), api.ErrPointer)
	fails(t, data("\xc0\x18", "\xc0\x17"), api.ErrPointer)
	fails(t, data("\x01b\xc0\x17", "\xc0\x17"), api.ErrPointer)
	fails(t, data("\x01b\xc0\x19", "\xc0\x17"), api.ErrPointer)
	fails(t, data("\xc0\x19\xc0\x17", "\xc0\x17"), api.ErrPointer)
	fails(t, data("\xc0\x1b\x01a\x00", "\xc0\x17"), api.ErrPointer)
	reads(t, data("\xc0\x0c", "\xc0\x17"), answers(rr("\x00", 99, "\xc0\x0c"), rr("\x00", 99, "")))
	reads(t, data("\x01b\xc0\x0c", "\xc0\x17"), answers(rr("\x00", 99, "\x01b\xc0\x0c"), rr(join("b"), 99, "")))
	reads(t, data("\x00\xc0\x17", "\xc0\x18"), answers(rr("\x00", 99, "\x00\xc0\x17"), rr("\x00", 99, "")))
	// The labels behind a pointer may go over the name's own place: here a label of data has the pointer in it.
	reads(t, data("\x06", "\xc0\x17"), answers(rr("\x00", 99, "\x06"), rr("\x06\xc0\x17\x00\x63\x00\x01\x00", 99, "")))
}

// A row of pointers, as long as can be, ends.
func TestDecodePointersRow(t *testing.T) {
	// Data at 23: a 0, and behind it pointers, each to the one ahead.
	row := "\x00\xc0\x17"
	for at := 24; len(row) < 16000; at += 2 {
		row += string([]byte{byte(0xc0 | at>>8), byte(at)})
	}
	last := 23 + len(row) - 2
	m := answers(rr("\x00", 99, row))
	b := "\x00" + numbers(99, len(row)) + row
	for len(b) < 65000 {
		m.Answers = append(m.Answers, rr("\x00", 99, ""))
		b += two(0xc000+last) + numbers(99, 0)
	}
	reads(t, head(0, len(m.Answers))+b, m)
}

// P4.2: the numbers and the data are told as too short ahead of what is wrong in the data.
func TestDecodeNumbers(t *testing.T) {
	for _, typ := range []int{1, 2, 5, 6, 12, 15, 16, 28, 41, 99} {
		for n := range 10 {
			fails(t, head(0, 1)+"\x00"+numbers(typ, 0)[:n], api.ErrShort)
			fails(t, head(0, 0, 1)+"\x01a\x00"+strings.Repeat("\xff", n), api.ErrShort)
		}
		for _, size := range []int{1, 2, 4, 16, 255, 256, 60000} {
			for _, has := range []int{0, 1, size / 2, size - 1} {
				for _, fill := range []string{"\x00", "\x01", "\x40", "\xc0", "\xff"} {
					if has < size {
						fails(t, head(0, 1)+"\x00"+numbers(typ, size)+strings.Repeat(fill, has), api.ErrShort)
					}
				}
			}
		}
	}
}

// with is bytes of a record with these data, of the owner b.a at 12, and of a record behind it.
func with(typ int, data string) string {
	return head(0, 2) + join("b", "a") + numbers(typ, len(data)) + data + "\x00" + numbers(99, 2) + "\x01\x00"
}

// withData is the message of it.
func withData(typ int, data string) api.Message {
	return answers(rr(join("b", "a"), typ, data), rr("\x00", 99, "\x01\x00"))
}

// P4.2: pointers in data are replaced.
func TestDecodeData(t *testing.T) {
	ba := join("b", "a")
	for _, typ := range []int{api.TypeNS, api.TypeCNAME, api.TypePTR} {
		reads(t, with(typ, "\x00"), withData(typ, "\x00"))
		reads(t, with(typ, join("c")), withData(typ, join("c")))
		reads(t, with(typ, "\xc0\x0c"), withData(typ, ba))
		reads(t, with(typ, "\xc0\x0e"), withData(typ, join("a")))
		reads(t, with(typ, "\xc0\x10"), withData(typ, "\x00"))
		reads(t, with(typ, "\x01c\xc0\x0c"), withData(typ, join("c", "b", "a")))
	}
	reads(t, with(api.TypeMX, "\xc0\x0c\xc0\x0c"), withData(api.TypeMX, "\xc0\x0c"+ba))
	reads(t, with(api.TypeMX, "\x00\x05\x00"), withData(api.TypeMX, "\x00\x05\x00"))
	reads(t, with(api.TypeMX, "\x00\x05\x01c\xc0\x0e"), withData(api.TypeMX, "\x00\x05"+join("c", "a")))
	reads(t, with(api.TypeSOA, soa("\xc0\x0c", "\xc0\x0e")), withData(api.TypeSOA, soa(ba, join("a"))))
	// Data stand at 27: the second name leads to the first one, and into it.
	reads(t, with(api.TypeSOA, soa("\x01c\xc0\x0c", "\xc0\x1b")), withData(api.TypeSOA, soa(join("c", "b", "a"), join("c", "b", "a"))))
	reads(t, with(api.TypeSOA, soa("\x01c\xc0\x0c", "\x01d\xc0\x1d")), withData(api.TypeSOA, soa(join("c", "b", "a"), join("d", "b", "a"))))
	reads(t, with(api.TypeSOA, soa("\x00", "\xc0\x1b")), withData(api.TypeSOA, soa("\x00", "\x00")))
	// Data of other types have no pointers.
	for _, x := range []struct {
		typ  int
		data string
	}{{1, "\xc0\x0c\xc0\x0c"}, {28, strings.Repeat("\xc0\x0c", 8)}, {16, "\x02\xc0\x0c"}, {41, "\xc0\x0c\x00\x02\xc0\x0c"}, {0, "\xc0\x0c"}, {3, "\xc0\x0c"}, {33, "\xc0\x0c"}, {39, "\xff\xff"}, {65535, "\xc0"}} {
		reads(t, with(x.typ, x.data), withData(x.typ, x.data))
	}
}

// P4.2: data that are none of their type.
func TestDecodeDataWrong(t *testing.T) {
	good := soa("\xc0\x0c", "\x01c\x00")
	for _, x := range []struct {
		typ   int
		wrong []string
	}{
		{api.TypeA, []string{"", "a", "abc", "abcde", "\xc0\x0c"}},
		{api.TypeAAAA, []string{"", "abcd", times(15), times(17)}},
		{api.TypeTXT, []string{"", "\x01", "\x02a", "\x00\x01", "\xff" + times(254), "\xc0\x0c"}},
		{api.TypeOPT, []string{"\x00", "\x00\x01\x00", "\x00\x01\x00\x01", "\x00\x01\x00\x00\x00", "\x00\x01\xff\xff" + times(300)}},
		{api.TypeNS, []string{"", "\x01", "\x01c", "\x02c\x00", "\x00\x00", "\x01c\x00\x00", "\x01c\x00\x40", "\xc0", "\x01c\xc0", "\xc0\x0c\x00", "\xc0\x0c\xc0\x0c", "\x3f\x00"}},
		{api.TypeMX, []string{"", "\x00", "\x40", "\xc0", "\x00\x00", "\x00\x00\x01", "\x00\x00\x01c", "\x00\x00\xc0", "\x00\x00\x00\x00", "\x00\x00\xc0\x0c\x00", "\xc0\x0c"}},
		{api.TypeSOA, []string{"", "\x00", "\xc0\x0c", "\x00\x00", "\x00\xc0", "\x00\x01", "\xc0\x0c\xc0\x0c", good[:len(good)-1], good + "\x00", soa("", "")[:20]}},
	} {
		for _, data := range x.wrong {
			fails(t, with(x.typ, data), api.ErrData)
			fails(t, head(0, 0, 1)+"\x00"+numbers(x.typ, len(data))+data, api.ErrData)
		}
	}
	for n := range len(good) {
		fails(t, with(api.TypeSOA, good[:n]), api.ErrData)
	}
	for n := range 64 {
		label := string([]byte{byte(n)}) + times(n)
		for _, typ := range []int{api.TypeNS, api.TypeCNAME, api.TypePTR} {
			if n > 0 {
				fails(t, with(typ, label), api.ErrData)
				fails(t, with(typ, label[:n]), api.ErrData)
			}
			fails(t, with(typ, label+"\x00\x00"), api.ErrData)
		}
	}
}

// P4.2: the first error of a name in data.
func TestDecodeDataNames(t *testing.T) {
	full := times(63)
	long := join(full, full, full, times(62))
	for _, x := range []struct {
		n    string
		want api.Errno
	}{
		{"\x40", api.ErrLabel},
		{"\xbf\x00", api.ErrLabel},
		{"\x01c\x40", api.ErrLabel},
		{"\x01c\xbf" + times(191) + "\x00", api.ErrLabel},
		{long, api.ErrName},
		{long[:len(long)-1], api.ErrName},
		{strings.Repeat("\x01a", 128), api.ErrName},
		// What stands within the data first is told, not that they end.
		{"\x40" + full, api.ErrLabel},
		{strings.Repeat("\x01a", 126) + "\x03a", api.ErrData},
		{"\x3f" + full + "\x3f" + full + "\x3f" + full + "\x3f" + times(62), api.ErrData},
	} {
		for _, typ := range []int{api.TypeNS, api.TypeCNAME, api.TypePTR} {
			fails(t, with(typ, x.n), x.want)
		}
		fails(t, with(api.TypeMX, "\x00\x05"+x.n), x.want)
		fails(t, with(api.TypeSOA, x.n), x.want)
		fails(t, with(api.TypeSOA, "\x00"+x.n), x.want)
	}
	fails(t, with(api.TypeSOA, "\x40"+long), api.ErrLabel)
	fails(t, with(api.TypeSOA, long+"\x40"), api.ErrName)
	fails(t, with(api.TypeSOA, "\x01c\x00\x41"+soa("", "")), api.ErrLabel)
	// Two wrong records: the first one counts.
	fails(t, head(0, 2)+"\x00"+numbers(1, 3)+"abc"+"\x40", api.ErrData)
	fails(t, head(0, 2)+"\x00"+numbers(2, 1)+"\x40"+"\x00"+numbers(1, 3)+"abc", api.ErrLabel)
}

// P4.2: pointers in data: to themselves, ahead, and to where their labels began; data stand at 27.
func TestDecodeDataPointers(t *testing.T) {
	for _, n := range []string{"\xc0\x1b", "\xc0\x1c", "\xc0\x1d", "\xc0\x1e", "\xff\xff", "\x01c\xc0\x1b", "\x01c\xc0\x1d", "\x01c\xc0\x1f", "\x01c\xc0\x20"} {
		for _, typ := range []int{api.TypeNS, api.TypeCNAME, api.TypePTR, api.TypeSOA} {
			fails(t, with(typ, n), api.ErrPointer)
		}
	}
	for _, n := range []string{"\xc0\x1d", "\xc0\x1e", "\xc0\x1f", "\xc0\x20", "\x01c\xc0\x1d", "\x01c\xc0\x1f"} {
		fails(t, with(api.TypeMX, "\x00\x05"+n), api.ErrPointer)
	}
	// The two bytes ahead of an MX's name stand below where it began.
	reads(t, with(api.TypeMX, "\x00\x00\xc0\x1b"), withData(api.TypeMX, "\x00\x00\x00"))
	reads(t, with(api.TypeMX, "\x01c\xc0\x0c"), withData(api.TypeMX, "\x01c"+join("b", "a")))
	// An SOA's second name: to itself, and to what stands behind it.
	fails(t, with(api.TypeSOA, soa("\x01c\x00", "\xc0\x1e")), api.ErrPointer)
	fails(t, with(api.TypeSOA, soa("\x01c\x00", "\x01d\xc0\x1e")), api.ErrPointer)
	fails(t, with(api.TypeSOA, soa("\x01c\x00", "\x01d\xc0\x20")), api.ErrPointer)
}

// P4.2: a pointer in data that leads to what does not end with them at the latest.
func TestDecodeDataPointersEnd(t *testing.T) {
	// At 23: a label that begins in other data, and goes on over all that stands behind.
	over := func(size int, behind string) string {
		return head(0, 2) + "\x00" + numbers(99, 1) + string([]byte{byte(size)}) + "\x00" + numbers(2, 2) + "\xc0\x17" + behind
	}
	// Behind the label's first byte 13 bytes stand up to the end of the data.
	for size := 13; size < 64; size++ {
		fails(t, over(size, ""), api.ErrData)
		fails(t, over(size, times(70)), api.ErrData)
		fails(t, over(size, strings.Repeat("\x00", 70)), api.ErrData)
	}
	// The length of the data themselves is a label's: it ends with them, but the name does not.
	fails(t, with(api.TypeMX, "\x01c\xc0\x1a"), api.ErrData)
	fails(t, over(12, ""), api.ErrData)
	fails(t, over(12, "\x00"), api.ErrData)
	// Of an owner it is too short only where the message ends.
	owner := head(0, 2) + "\x00" + numbers(99, 1) + "\x0d" + "\xc0\x17" + numbers(99, 0)
	fails(t, owner, api.ErrShort)
	fails(t, owner+"\x00", api.ErrShort)
	fails(t, owner+"\x00\x00", api.ErrTrail)
}

// P4.2: what is left behind the last part.
func TestDecodeTrail(t *testing.T) {
	for _, b := range []string{asked("\x00"), asked(join("a"), "\xc0\x0c"), with(api.TypeNS, "\xc0\x0c"), with(99, "")} {
		for _, more := range []string{"\x00", "\x40", "\xc0\x0c", b, times(1000)} {
			fails(t, b+more, api.ErrTrail)
		}
	}
	// An error within a part is told first.
	fails(t, with(1, "abc")+"\x00", api.ErrData)
}

// Each count by itself: as many parts as there are, one less, one more.
func TestDecodeCounts(t *testing.T) {
	part := "\x00" + numbers(99, 0)
	for section := 1; section < 4; section++ {
		for n := range 5 {
			counts := make([]int, 4)
			counts[section] = n
			l := make([]api.RR, n)
			for i := range l {
				l[i] = rr("\x00", 99, "")
			}
			m := []api.Message{{}, {Answers: l}, {Authority: l}, {Additional: l}}[section]
			b := head(counts...) + strings.Repeat(part, n)
			reads(t, b, m)
			fails(t, b+part, api.ErrTrail)
			if n > 0 {
				fails(t, b[:len(b)-len(part)], api.ErrShort)
			}
		}
	}
}

// Any two bytes where a name begins, at 19, with a question's four bytes behind them.
func TestDecodeTwoBytes(t *testing.T) {
	for n := range 1 << 16 {
		// A label of any length goes over the end, or over so much that the numbers are not all there; behind the root's byte one is left.
		want := api.ErrShort
		switch first, place := n>>8, n&0x3fff; {
		case first == 0:
			want = api.ErrTrail
		case first >= 0xc0 && place >= 19:
			want = api.ErrPointer
		case first >= 0xc0 && place == 13:
			want = api.ErrLabel // the a
		case first >= 0xc0 && (place == 16 || place == 18):
			want = api.ErrShort // a number's 1 is a label's length; the next label is the pointer, and has no end
		case first >= 0xc0:
			want = api.OK
		case first >= 0x40:
			want = api.ErrLabel
		}
		b := asked(join("a"), two(n))
		if m, e := wire.Decode([]byte(b)); e != want || (e != api.OK && !wire.Same(m, api.Message{})) {
			t.Errorf("Decode(%q): %d, not %d", b, e, want)
		}
	}
}
