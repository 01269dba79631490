package wire_test

import (
	"bytes"
	"fmt"
	"math"
	"slices"
	"strings"
	"testing"

	"cicerone/api"
	"cicerone/wire"
)

// join is bytes as on the wire: each label with its length ahead, the byte 0 behind.
func join(labels ...string) string {
	n := ""
	for _, l := range labels {
		n += string([]byte{byte(len(l))}) + l
	}
	return n + "\x00"
}

// times is a text of one letter, so many times over.
func times(size int) string { return strings.Repeat("x", size) }

// brief is a message's beginning, as words.
func brief(m api.Message) string {
	s := fmt.Sprintf("%q", fmt.Sprint(m))
	return s[:min(len(s), 200)]
}

// two is a number in two bytes.
func two(n int) string { return string([]byte{byte(n / 256), byte(n)}) }

// head is a header with nothing but its counts.
func head(counts ...int) string {
	h := strings.Repeat("\x00", 4)
	for _, c := range counts {
		h += two(c)
	}
	return h + strings.Repeat("\x00", 2*(4-len(counts)))
}

// soa is data of TypeSOA.
func soa(mname, rname string) string {
	return mname + rname + "\x00\x00\x00\x01\x00\x00\x00\x02\x00\x00\x00\x03\x00\x00\x00\x04\xff\xff\xff\xff"
}

// rr is a record that lasts for 7 ticks.
func rr(n string, t int, data string) api.RR {
	return api.RR{Name: n, Type: t, Class: api.ClassIN, TTL: 7, Data: []byte(data)}
}

// answers is a message of records alone.
func answers(l ...api.RR) api.Message { return api.Message{Answers: l} }

// ask is a message of one question.
func ask(n string) api.Message {
	return api.Message{Questions: []api.Question{{Name: n, Type: api.TypeA, Class: api.ClassIN}}}
}

// every is a message with records of each type, in all three sections.
func every() api.Message {
	www, zone, mail := join("www", "Example"), join("Example"), join("mail", "Example")
	return api.Message{
		Header:    api.Header{ID: 0x1234, Response: true, Opcode: 2, AA: true, RD: true, RA: true, Code: api.CodeName},
		Questions: []api.Question{{Name: www, Type: api.TypeA, Class: api.ClassIN}, {Name: mail, Type: 255, Class: 65535}},
		Answers: []api.RR{
			rr(www, api.TypeCNAME, join("w", "example")),
			rr(join("w", "example"), api.TypeA, "\x7f\x00\x00\x01"),
			rr(join("w", "example"), api.TypeAAAA, times(16)),
			rr(zone, api.TypeMX, "\x00\x05"+mail),
			rr(zone, api.TypeTXT, "\x00\x03abc"+zone[:8]),
		},
		Authority: []api.RR{
			rr(zone, api.TypeNS, join("ns", "Example")),
			rr(zone, api.TypeSOA, soa(join("ns", "Example"), join("a.b", "Example"))),
			rr("\x00", api.TypePTR, "\x00"),
		},
		Additional: []api.RR{
			{Name: "\x00", Type: api.TypeOPT, Class: 4096, TTL: 1<<32 - 1, Data: []byte("\x00\x0a\x00\x02ab")},
			{Name: zone, Type: 65535, Class: 0, Data: []byte(zone)},
			{Name: mail, Type: 0, Class: 65535},
		},
	}
}

// canBe asks whether a message can be written: Can, Encode, and, there and back, Decode.
func canBe(t *testing.T, m api.Message, want bool) {
	t.Helper()
	if wire.Can(m) != want {
		t.Errorf("Can(%s) is %v", brief(m), !want)
	}
	b, e := wire.Encode(m)
	if !want {
		if e != api.ErrArg || len(b) != 0 {
			t.Errorf("Encode(%s) is %.90q, %d", brief(m), b, e)
		}
		return
	}
	if e != api.OK {
		t.Errorf("Encode(%s) is %.90q, %d", brief(m), b, e)
	}
	if back, e := wire.Decode(b); e != api.OK || !wire.Same(back, m) {
		t.Errorf("Decode(%.90q) is %s, %d", b, brief(back), e)
	}
}

// P4.1: whatever the type, and wherever it stands.
func TestCan(t *testing.T) {
	canBe(t, api.Message{}, true)
	canBe(t, every(), true)
	m := every()
	m.Questions, m.Answers, m.Authority = []api.Question{}, []api.RR{}, nil
	canBe(t, m, true)
}

// everywhere is a message with a part in each place where one can stand: two messages for each, a part of its own and one behind another.
func everywhere(q api.Question, r api.RR) []api.Message {
	good := rr(join("a"), api.TypeA, "abcd")
	l := []api.Message{
		{Questions: []api.Question{q}},
		{Questions: []api.Question{{Name: "\x00"}, q}, Answers: []api.RR{good}},
	}
	return append(l, records(r)...)
}

// records is a message with a record in each place where one can stand.
func records(r api.RR) []api.Message {
	good := rr(join("a"), api.TypeA, "abcd")
	return []api.Message{
		{Answers: []api.RR{r}},
		{Answers: []api.RR{good, r, good}},
		{Authority: []api.RR{r}},
		{Authority: []api.RR{good, r, good}},
		{Additional: []api.RR{r}},
		{Additional: []api.RR{good, good, r}},
	}
}

// P4.1: each number at its ends and beyond.
func TestCanNumbers(t *testing.T) {
	for _, n := range []int{math.MinInt, math.MinInt32, -65536, -1, 0, 1, 255, 256, 65534, 65535, 65536, 65537, 1<<31 - 1, 1 << 31, 1<<32 - 1, 1 << 32, 1<<32 + 1, 1 << 40, math.MaxInt} {
		small, wide := n >= 0 && n <= 65535, n >= 0 && n < 1<<32
		for _, m := range everywhere(api.Question{Name: "\x00", Type: 1, Class: n}, api.RR{Name: "\x00", Type: 99, Class: n}) {
			canBe(t, m, small)
		}
		for _, m := range records(api.RR{Name: "\x00", Type: 99, TTL: n}) {
			canBe(t, m, wide)
		}
		// No bytes are no data of TypeA and of the like: 1 is left out.
		if n != 1 {
			for _, m := range everywhere(api.Question{Name: "\x00", Type: n, Class: 1}, api.RR{Name: "\x00", Type: n}) {
				canBe(t, m, small)
			}
		}
		canBe(t, api.Message{Header: api.Header{ID: n}}, small)
		canBe(t, api.Message{Header: api.Header{Opcode: n}}, n >= 0 && n <= 15)
		canBe(t, api.Message{Header: api.Header{Code: n}}, n >= 0 && n <= 15)
	}
	for _, h := range []api.Header{{Opcode: 15, Code: 15}, {TC: true}, {Response: true, AA: true, RA: true}, {RD: true}} {
		canBe(t, api.Message{Header: h}, true)
	}
}

// P4.1: all names are names.
func TestCanNames(t *testing.T) {
	full := times(63)
	for _, n := range []string{"\x00", join("a"), join("a.b", "\x00\xff"), join(full), strings.Repeat("\x01a", 127) + "\x00", join(full, full, full, times(61))} {
		for _, m := range everywhere(api.Question{Name: n, Type: 1, Class: 1}, rr(n, 99, "")) {
			canBe(t, m, true)
		}
		for _, m := range withinData(n) {
			canBe(t, m, true)
		}
	}
	for _, n := range []string{"", "a", "\x01", "\x01a", "\x02a\x00", "\x00\x00", "\x01a\x00\x00", "\xc0\x0c", "\x01a\xc0\x0c", join(times(64)), "\x02aa" + strings.Repeat("\x01a", 126) + "\x00", join(full, full, full, times(62)), strings.Repeat("\x01a", 1000)} {
		for _, m := range everywhere(api.Question{Name: n, Type: 1, Class: 1}, rr(n, 99, "")) {
			canBe(t, m, false)
		}
		for _, m := range withinData(n) {
			canBe(t, m, false)
		}
	}
}

// withinData is messages with a name in data.
func withinData(n string) []api.Message {
	var l []api.Message
	for _, t := range []int{api.TypeNS, api.TypeCNAME, api.TypePTR} {
		l = append(l, records(rr("\x00", t, n))...)
	}
	l = append(l, records(rr("\x00", api.TypeMX, "\x00\x05"+n))...)
	l = append(l, records(rr("\x00", api.TypeSOA, soa(n, "\x00")))...)
	return append(l, records(rr("\x00", api.TypeSOA, soa("\x00", n)))...)
}

// P4.1: data are data of their type.
func TestCanData(t *testing.T) {
	for _, x := range []struct {
		t    int
		data string
		want bool
	}{
		{api.TypeA, "abcd", true}, {api.TypeA, "abc", false}, {api.TypeA, "abcde", false}, {api.TypeA, "", false},
		{api.TypeAAAA, times(16), true}, {api.TypeAAAA, times(4), false}, {api.TypeAAAA, times(17), false},
		{api.TypeMX, "\x00\x05\x00", true}, {api.TypeMX, "\x00\x05", false}, {api.TypeMX, "\x00", false}, {api.TypeMX, "\x00\x05\x00\x00", false},
		{api.TypeSOA, soa("\x00", "\x00"), true}, {api.TypeSOA, soa("\x00", "\x00") + "\x00", false}, {api.TypeSOA, "\x00\x00", false},
		{api.TypeTXT, "\x00", true}, {api.TypeTXT, "\xff" + times(255), true}, {api.TypeTXT, "", false}, {api.TypeTXT, "\x02a", false}, {api.TypeTXT, "\xff" + times(254), false},
		{api.TypeOPT, "", true}, {api.TypeOPT, "\x00\x01\x00\x00", true}, {api.TypeOPT, "\x00\x01\x00", false}, {api.TypeOPT, "\x00\x01\x00\x01", false},
		{99, "", true}, {99, times(60000), true}, {0, "\xc0\x0c", true}, {65535, "\x3f", true},
	} {
		for _, m := range records(rr(join("a"), x.t, x.data)) {
			canBe(t, m, x.want)
		}
	}
	for _, m := range records(api.RR{Name: "\x00", Type: api.TypeA}) {
		canBe(t, m, false)
	}
}

// P4.1: counts at their end and beyond.
func TestCanCounts(t *testing.T) {
	q := slices.Repeat([]api.Question{{Name: "\x00"}}, 65536)
	l := slices.Repeat([]api.RR{{Name: "\x00"}}, 65536)
	for _, x := range []struct {
		m    api.Message
		want bool
	}{
		{api.Message{Questions: q[:65535], Answers: l[:65535], Authority: l[:65535], Additional: l[:65535]}, true},
		{api.Message{Questions: q}, false},
		{api.Message{Answers: l}, false},
		{api.Message{Authority: l}, false},
		{api.Message{Additional: l}, false},
	} {
		want := api.ErrArg
		if x.want {
			want = api.ErrLong
		}
		b, e := wire.Encode(x.m)
		if wire.Can(x.m) != x.want || e != want || len(b) != 0 {
			t.Errorf("%d questions, %d, %d, %d records: Can %v, Encode %d bytes, %d", len(x.m.Questions), len(x.m.Answers), len(x.m.Authority), len(x.m.Additional), !x.want, len(b), e)
		}
	}
}

// changes are messages that are not every, each by one thing.
func changes() []api.Message {
	var l []api.Message
	change := func(how func(m *api.Message)) {
		m := every()
		how(&m)
		l = append(l, m)
	}
	change(func(m *api.Message) { m.ID++ })
	change(func(m *api.Message) { m.Response = false })
	change(func(m *api.Message) { m.Opcode++ })
	change(func(m *api.Message) { m.AA = false })
	change(func(m *api.Message) { m.TC = true })
	change(func(m *api.Message) { m.RD = false })
	change(func(m *api.Message) { m.RA = false })
	change(func(m *api.Message) { m.Code++ })
	change(func(m *api.Message) { m.Questions[0].Name = strings.ToLower(m.Questions[0].Name) })
	change(func(m *api.Message) { m.Questions[1].Type-- })
	change(func(m *api.Message) { m.Questions[1].Class-- })
	change(func(m *api.Message) { m.Questions = m.Questions[:1] })
	change(func(m *api.Message) { m.Questions = nil })
	change(func(m *api.Message) { slices.Reverse(m.Questions) })
	for _, list := range []func(m *api.Message) *[]api.RR{
		func(m *api.Message) *[]api.RR { return &m.Answers },
		func(m *api.Message) *[]api.RR { return &m.Authority },
		func(m *api.Message) *[]api.RR { return &m.Additional },
	} {
		change(func(m *api.Message) { (*list(m))[1].Name = "\x01y\x00" })
		change(func(m *api.Message) { (*list(m))[1].Type++ })
		change(func(m *api.Message) { (*list(m))[1].Class++ })
		change(func(m *api.Message) { (*list(m))[1].TTL++ })
		change(func(m *api.Message) { (*list(m))[1].Data[0]++ })
		change(func(m *api.Message) { (*list(m))[1].Data = (*list(m))[1].Data[1:] })
		change(func(m *api.Message) { (*list(m))[1].Data = nil })
		change(func(m *api.Message) { *list(m) = append(*list(m), (*list(m))[0]) })
		change(func(m *api.Message) { *list(m) = (*list(m))[1:] })
		change(func(m *api.Message) { *list(m) = nil })
		change(func(m *api.Message) { slices.Reverse(*list(m)) })
	}
	change(func(m *api.Message) { m.Answers, m.Authority = m.Authority, m.Answers })
	return l
}

// P4.2: all fields, and what can be no message, too.
func TestSame(t *testing.T) {
	if !wire.Same(every(), every()) || !wire.Same(api.Message{}, api.Message{}) {
		t.Error("a message is not the same as itself")
	}
	l := append(changes(), every(), api.Message{})
	for i, a := range l {
		for j, b := range l {
			if wire.Same(a, b) != (i == j) {
				t.Errorf("change %d and change %d: Same is %v", i, j, i != j)
			}
		}
	}
	empty := api.Message{Questions: []api.Question{}, Answers: []api.RR{}, Authority: []api.RR{}, Additional: []api.RR{}}
	if !wire.Same(empty, api.Message{}) || !wire.Same(api.Message{}, empty) {
		t.Error("nil and empty lists are not the same")
	}
	if !wire.Same(answers(api.RR{Data: []byte{}}), answers(api.RR{})) {
		t.Error("nil and empty data are not the same")
	}
	wrong := answers(api.RR{Name: "no name", Type: -1, Class: 1 << 40, TTL: -1})
	if !wire.Same(wrong, wrong) || wire.Same(wrong, answers(api.RR{})) {
		t.Error("what can be no message")
	}
}

// scribble writes over bytes, and over the room behind them.
func scribble(b []byte) {
	b = b[:cap(b)]
	for i := range b {
		b[i] = 0xee
	}
}

// scribbleList writes over records and their data, and over the room behind them.
func scribbleList(l []api.RR) {
	for i := range l {
		scribble(l[i].Data)
	}
	l = l[:cap(l)]
	for i := range l {
		l[i] = api.RR{Name: "x"}
	}
}

// What is handed in stays as it is, the room behind it too; an answer is new memory, and no two of its lists share any.
func TestMemory(t *testing.T) {
	m := every()
	m.Answers = append(m.Answers, m.Answers[0])[:len(m.Answers)]
	b, _ := wire.Encode(m)
	again, _ := wire.Encode(m)
	if !wire.Same(m, every()) {
		t.Error("Encode changed the message")
	}
	scribble(again)
	if c, _ := wire.Encode(m); !bytes.Equal(b, c) {
		t.Error("two answers of Encode share")
	}
	room := append(bytes.Clone(b), "abcdef"...)
	kept := bytes.Clone(room)
	x, _ := wire.Decode(room[:len(b)])
	y, _ := wire.Decode(room[:len(b)])
	if !bytes.Equal(room, kept) {
		t.Error("Decode changed the bytes")
	}
	scribble(room)
	if !wire.Same(x, m) {
		t.Error("Decode kept the bytes")
	}
	scribbleList(y.Answers)
	scribbleList(y.Authority)
	if !wire.Same(x, m) || !wire.Same(api.Message{Additional: x.Additional}, api.Message{Additional: m.Additional}) {
		t.Error("two answers of Decode share")
	}
	for i, r := range x.Answers {
		scribble(r.Data)
		x.Answers[i].Data = bytes.Clone(m.Answers[i].Data)
		if !wire.Same(x, m) {
			t.Errorf("data %d are shared with others", i)
		}
	}
}
