package front_test

import (
	"math"
	"strings"
	"testing"

	"cicerone/api"
)

// P21.2: one stream and several, one query and several in one piece: what is told, and what waits.
func TestFeed(t *testing.T) {
	for _, kind := range kinds {
		f := opened(t, kind, kind)
		feeds(t, f, 1, "", 0)
		feeds(t, f, 1, sent(kind, queries(of(a))...), 0, of(a))
		waits(t, f, of(a))
		feeds(t, f, 2, sent(kind, queries(of(b), of(root), of(net))...), 0, of(b), of(root), of(net))
		waits(t, f, of(a), of(b), of(root), of(net))
		takes(t, f, 1, "")
		takes(t, f, 2, "")
		streams(t, f, 1, 2)
	}
}

// P21.2: in pieces of one byte, with pieces of none between, a question is told with the last one.
func TestFeedPieces(t *testing.T) {
	for _, kind := range kinds {
		f := opened(t, kind)
		for _, q := range []api.Question{of(a), of(b)} {
			s := sent(kind, queries(q)...)
			for i := range len(s) - 1 {
				feeds(t, f, 1, s[i:i+1], 0)
				feeds(t, f, 1, "", 0)
			}
			feeds(t, f, 1, s[len(s)-1:], 0, q)
		}
		if got, e := f.Feed(1, nil, 0); len(got) != 0 || e != api.OK {
			t.Errorf("Feed(nil) is %v, %d", got, e)
		}
		waits(t, f, of(a), of(b))
	}
}

// P21.2: the pieces of several streams come in turns.
func TestFeedTurns(t *testing.T) {
	f := opened(t, api.StreamFrames, api.StreamHTTP)
	x, y := framed(queries(of(a))...), posted(queries(of(b))...)
	feeds(t, f, 1, x[:9], 0)
	feeds(t, f, 2, y[:9], 0)
	feeds(t, f, 1, x[9:]+x[:20], 0, of(a))
	feeds(t, f, 2, y[9:]+y[:50], 0, of(b))
	feeds(t, f, 1, x[20:], 0)
	feeds(t, f, 2, y[50:], 0)
	waits(t, f, of(a), of(b))
}

// Queries: a body of 0 to 11 bytes has the stream refused: its bytes go out, its queries wait no more, its bodies have no reply.
func TestFeedShort(t *testing.T) {
	for i, kind := range kinds {
		bye := []string{"", refused}[i]
		for size := range 12 {
			// The first bytes of a query, so that size alone is at fault.
			short := queries(of(b))[0][:size]
			f := opened(t, kind, api.StreamFrames)
			feeds(t, f, 1, sent(kind, queries(of(a))...), 0, of(a))
			feeds(t, f, 2, framed(queries(of(upA))...), 0)
			feeds(t, f, 1, sent(kind, short), 1)
			streams(t, f, 1, 2)
			waits(t, f, of(upA))
			answers(t, f, of(a), found(set(a, 50, 1)), 10)
			takes(t, f, 2, framed(encoded(reply(query(1, of(upA)), 0, []api.RR{record(a, 40, 1)}, nil))...))
			takes(t, f, 1, bye)
			none(t, f, 1)
			streams(t, f, 2)

			// Alone, and with bodies behind it in the same piece and in later ones.
			f = opened(t, kind)
			feeds(t, f, 1, sent(kind, append([]string{short}, queries(of(a))...)...), 0)
			feeds(t, f, 1, sent(kind, queries(of(b))...), 0)
			feeds(t, f, 1, sent(kind, short), 0)
			feeds(t, f, 1, "\n", 0)
			waits(t, f)
			notes(t, f)
			streams(t, f, 1)
			takes(t, f, 1, bye)
			none(t, f, 1)
		}
	}
}

// P21.2: questions of a stream that is refused in the same piece are not told; those that others wait for still wait.
func TestFeedRefusedSame(t *testing.T) {
	httpBad := []string{posted("short"), "\n", "GET / HTTP/1.1\r\n\r\n"}
	for i, bads := range [][]string{{framed("short"), framed("")}, httpBad} {
		kind := kinds[i]
		for _, bad := range bads {
			f := opened(t, kind, api.StreamHTTP)
			feeds(t, f, 2, posted(queries(of(b))...), 0, of(b))
			feeds(t, f, 1, sent(kind, queries(of(a), of(upB))...)+bad+sent(kind, queries(numbered(1))...), 7)
			waits(t, f, of(b))
			notes(t, f, came(2, 0, query(1, of(b))), came(1, 7, query(1, of(a))), came(1, 7, query(2, of(upB))))
			takes(t, f, 1, []string{"", refused}[i])
			streams(t, f, 2)
			feeds(t, f, 2, posted(queries(of(a))...), 8, of(a))
		}
	}
}

// P21.2: a Bad frame has the stream refused, alone and behind queries that came ahead.
func TestFeedBad(t *testing.T) {
	for _, bad := range []string{"\n", "\x00", "\r\n", "GET / HTTP/1.1\r\n\r\n", "POST /dns-query HTTP/1.1\r\n\r\n", strings.Repeat("x", 2000)} {
		for _, behind := range []string{"", "\n", posted(queries(of(b))...)} {
			f := opened(t, api.StreamHTTP)
			feeds(t, f, 1, posted(queries(of(a))...), 0, of(a))
			feeds(t, f, 1, bad+behind, 0)
			feeds(t, f, 1, posted(queries(of(b))...), 0)
			streams(t, f, 1)
			waits(t, f)
			takes(t, f, 1, refused)
			streams(t, f)
		}
	}
	// What is bad by HTTP are frames like others.
	f := opened(t, api.StreamFrames)
	feeds(t, f, 1, "\x00\x0c"+"GET / HTTP/1", 0)
	takes(t, f, 1, framed(malformed('G'<<8|'E')))
	streams(t, f, 1)
}

// Queries: a body of 12 bytes or more that is no query has a reply at once, with its first two bytes, and is not noted; the stream goes on.
func TestFeedMalformed(t *testing.T) {
	whole := queries(of(a))[0]
	two := with(query(1, of(a)), func(m *api.Message) { m.Questions = []api.Question{of(a), of(a)} })
	response := with(query(1, of(a)), func(m *api.Message) { m.Response = true })
	answer := with(response, func(m *api.Message) { m.Answers = []api.RR{record(a, 1, 1)} })
	no := api.Message{Header: api.Header{ID: 1}}
	recordAlone := with(no, func(m *api.Message) { m.Additional = []api.RR{record(a, 1, 1)} })
	for what, body := range map[string]string{
		"twelve bytes":          "123456789012",
		"a head without more":   whole[:12],
		"a question cut off":    whole[:len(whole)-1],
		"a byte behind":         whole + "\x00",
		"bits that must be 0":   whole[:3] + "\x10" + whole[4:],
		"a name that points on": whole[:12] + "\xc0\x0c\x00\x01\x00\x01",
		"no question":           encoded(no)[0],
		"a record alone":        encoded(recordAlone)[0],
		"two questions":         encoded(two)[0],
		"a Response":            encoded(response)[0],
		"a Response's answer":   encoded(answer)[0],
		"many bytes":            strings.Repeat("\xff", 65535),
	} {
		for _, id := range []int{0, 1, 255, 256, 0xabcd, 65535} {
			for _, kind := range kinds {
				s := string([]byte{byte(id >> 8), byte(id)}) + body[2:]
				f := opened(t, kind)
				feeds(t, f, 1, sent(kind, s), 3)
				waits(t, f)
				takes(t, f, 1, told(kind, malformed(id)))
				feeds(t, f, 1, sent(kind, s, whole, s), 4, of(a))
				waits(t, f, of(a))
				notes(t, f, came(1, 4, query(1, of(a))))
				streams(t, f, 1)
				if t.Failed() {
					t.Fatal(what)
				}
			}
		}
	}
}

// Queries: what stands in a query beside its question plays no part; the reply has its ID, Opcode and RD, and nothing else of it.
func TestFeedWhole(t *testing.T) {
	m := api.Message{
		Header:     api.Header{ID: 65535, AA: true, TC: true, RA: true, Code: 15},
		Questions:  []api.Question{of(upA)},
		Answers:    []api.RR{record(b, 3, 1)},
		Authority:  []api.RR{start(5)},
		Additional: []api.RR{{Name: root, Type: api.TypeOPT, Class: 1232}},
	}
	f := opened(t, api.StreamFrames)
	feeds(t, f, 1, framed(encoded(m)...), 6, of(upA))
	answers(t, f, of(a), found(set(a, 50, 9)), 10)
	r := api.Message{Header: api.Header{ID: 65535, Response: true, RA: true}, Questions: m.Questions, Answers: []api.RR{record(a, 40, 9)}}
	takes(t, f, 1, framed(encoded(r)...))
	notes(t, f, came(1, 6, m), went(1, 10, r))
}

// atOnce asks for the code that a query is replied at once; CodeOK, if it waits.
func atOnce(t *testing.T, m api.Message, code int) {
	t.Helper()
	for _, kind := range kinds {
		f := opened(t, kind)
		if code == api.CodeOK {
			feeds(t, f, 1, sent(kind, encoded(m)...), 5, m.Questions[0])
			waits(t, f, m.Questions[0])
			notes(t, f, came(1, 5, m))
			takes(t, f, 1, "")
			continue
		}
		feeds(t, f, 1, sent(kind, encoded(m)...), 5)
		waits(t, f)
		notes(t, f, came(1, 5, m), went(1, 5, empty(m, code)))
		takes(t, f, 1, told(kind, encoded(empty(m, code))...))
	}
}

// Queries: Opcodes, Types and Classes that are refused at once; Opcode and Type come ahead of the Class.
func TestFeedAtOnce(t *testing.T) {
	for opcode := range 16 {
		for _, class := range []int{api.ClassIN, 3} {
			m := with(query(9, of(a)), func(m *api.Message) { m.Opcode, m.Questions[0].Class = opcode, class })
			switch {
			case opcode != 0:
				atOnce(t, m, api.CodeNot)
			case class != api.ClassIN:
				atOnce(t, m, api.CodeRefused)
			default:
				atOnce(t, m, api.CodeOK)
			}
		}
	}
	for kind, may := range map[int]bool{
		0: false, 1: true, 2: true, 5: true, 6: true, 28: true, 40: true, 41: false, 42: true, 247: true, 248: true,
		249: false, 250: false, 251: false, 252: false, 253: false, 254: false, 255: false,
		256: true, 257: true, 249 + 256: true, 65534: true, 65535: true,
	} {
		for _, class := range []int{0, 1, 2, 3, 254, 255, 256, 257, 65535} {
			m := query(9, api.Question{Name: upA, Type: kind, Class: class})
			switch {
			case !may:
				atOnce(t, m, api.CodeNot)
			case class != 1:
				atOnce(t, m, api.CodeRefused)
			default:
				atOnce(t, m, api.CodeOK)
			}
		}
	}
	atOnce(t, query(0, of(root)), api.CodeOK)
	atOnce(t, query(0, of(strings.Repeat("\x01X", 127)+root)), api.CodeOK)
}

// Queries: the reply has RD as the query had it.
func TestFeedRD(t *testing.T) {
	for _, rd := range []bool{false, true} {
		m := with(query(9, of(a)), func(m *api.Message) { m.RD, m.Opcode = rd, 5 })
		f := opened(t, api.StreamFrames)
		feeds(t, f, 1, framed(encoded(m)...), 0)
		flags := []byte{0x80 | 5<<3, 0x80 | api.CodeNot}
		if rd {
			flags[0] |= 1
		}
		takes(t, f, 1, framed("\x00\x09"+string(flags)+"\x00\x01\x00\x00\x00\x00\x00\x00"+a+"\x00\x01\x00\x01"))
	}
}

// P21.2: the same question, in other case, by another ID, on the same stream and on others, is told once; another Type is another question.
func TestFeedSame(t *testing.T) {
	f := opened(t, api.StreamFrames, api.StreamHTTP, api.StreamFrames)
	mx := api.Question{Name: a, Type: api.TypeMX, Class: api.ClassIN}
	feeds(t, f, 1, framed(queries(of(a), of(upA), of(a))...), 0, of(a))
	feeds(t, f, 1, framed(queries(of(upA))...), 0)
	feeds(t, f, 2, posted(queries(of(upA), mx, of(upB), of(a), of(b))...), 0, mx, of(upB))
	feeds(t, f, 3, framed(queries(of(b), mx, of(root))...), 0, of(root))
	waits(t, f, of(a), mx, of(upB), of(root))
	// Bytes beside letters have no other case, and labels that are cut elsewhere make another name.
	x, y := of("\x02@[\x00"), of("\x02`{\x00")
	feeds(t, f, 3, framed(queries(x, y, of("\x05a\x03net\x00"))...), 0, x, y, of("\x05a\x03net\x00"))
	answers(t, f, of(upA), found(set(a, 50, 1)), 10)
	r := []api.RR{record(a, 40, 1)}
	takes(t, f, 1, framed(encoded(
		reply(query(1, of(a)), 0, r, nil), reply(query(2, of(upA)), 0, r, nil), reply(query(3, of(a)), 0, r, nil), reply(query(1, of(upA)), 0, r, nil),
	)...))
	takes(t, f, 2, back(encoded(reply(query(1, of(upA)), 0, r, nil))...))
	takes(t, f, 3, "")
	waits(t, f, mx, of(upB), of(root), x, y, of("\x05a\x03net\x00"))
}

// P21.2: bytes beyond the letters A to Z have no other case, whatever a text of runes makes of them.
func TestFeedSameBytes(t *testing.T) {
	f := opened(t, api.StreamFrames)
	l := []api.Question{of("\x02\xc3\x89\x00"), of("\x02\xc3\xa9\x00"), of("\x01\xff\x00"), of("\x01\xfe\x00"), of("\x01\xdf\x00"), of("\x01\x00\x00"), of("\x01 \x00")}
	feeds(t, f, 1, framed(queries(l...)...), 0, l...)
	feeds(t, f, 1, framed(queries(l...)...), 0)
	waits(t, f, l...)
	for i, q := range l {
		fails(t, f, q, 0)
		takes(t, f, 1, framed(encoded(empty(query(i+1, q), 2), empty(query(i+1, q), 2))...))
		waits(t, f, l[i+1:]...)
	}
}

// P21.2: MaxTasks questions that wait, one more, and one more that is among them.
func TestFeedTasks(t *testing.T) {
	f := opened(t, api.StreamFrames, api.StreamFrames)
	var l []api.Question
	for i := range 16 {
		l = append(l, numbered(i))
	}
	feeds(t, f, 1, framed(queries(l[:9]...)...), 0, l[:9]...)
	feeds(t, f, 2, framed(queries(append(l[5:12:12], of(a))...)...), 0, append(l[9:12:12], of(a))...)
	feeds(t, f, 1, framed(queries(l[12:15]...)...), 0, l[12:15]...)
	full := append(append(l[:12:12], of(a)), l[12:15]...)
	waits(t, f, full...)

	more, among := query(7, l[15]), query(8, of(upA))
	feeds(t, f, 2, framed(encoded(more, among, more)...), 6)
	takes(t, f, 2, framed(encoded(empty(more, api.CodeServer), empty(more, api.CodeServer))...))
	waits(t, f, full...)
	// The other codes come ahead.
	not := query(1, with(l[15], func(q *api.Question) { q.Type = 255 }))
	refuse := query(2, with(l[15], func(q *api.Question) { q.Class = 3 }))
	feeds(t, f, 2, framed(encoded(not, refuse)...), 6)
	takes(t, f, 2, framed(encoded(empty(not, api.CodeNot), empty(refuse, api.CodeRefused))...))

	fails(t, f, of(a), 7)
	takes(t, f, 2, framed(encoded(empty(query(8, of(a)), api.CodeServer), empty(among, api.CodeServer))...))
	feeds(t, f, 2, framed(encoded(more, query(9, of(b)))...), 8, l[15])
	takes(t, f, 2, framed(encoded(empty(query(9, of(b)), api.CodeServer))...))
	ends(t, f, 1, api.OK)
	waits(t, f, append(append(l[5:9:9], l[9:12]...), l[15])...)
}

// P21.2: in one piece, too, of MaxTasks questions and one more the last one alone has its reply at once.
func TestFeedTasksPiece(t *testing.T) {
	for _, kind := range kinds {
		f := opened(t, kind)
		var l []api.Question
		for i := range 18 {
			l = append(l, numbered(i))
		}
		feeds(t, f, 1, sent(kind, queries(append(l[:17:17], l[0], l[17])...)...), 0, l[:16]...)
		waits(t, f, l[:16]...)
		fail := encoded(empty(query(17, l[16]), 2), empty(query(19, l[17]), 2))
		if kind == api.StreamFrames {
			takes(t, f, 1, framed(fail...))
			continue
		}
		takes(t, f, 1, "")
		for i := range 16 {
			fails(t, f, l[i], 0)
			waits(t, f, l[i+1:16]...)
			if i < 15 {
				takes(t, f, 1, back(encoded(empty(query(i+1, l[i]), 2))...))
			}
		}
		takes(t, f, 1, back(append(encoded(empty(query(16, l[15]), 2)), fail[0], encoded(empty(query(18, l[0]), 2))[0], fail[1])...))
	}
}

// P21.2: any number is a time.
func TestFeedNow(t *testing.T) {
	for _, now := range []int{math.MinInt, -1, 0, 1, 1 << 40, math.MaxInt} {
		f := opened(t, api.StreamFrames)
		m := query(1, with(of(b), func(q *api.Question) { q.Type = 255 }))
		feeds(t, f, 1, framed(append(queries(of(a)), encoded(m)...)...), now, of(a))
		fails(t, f, of(a), now)
		notes(t, f, came(1, now, query(1, of(a))), came(1, now, m), went(1, now, empty(m, api.CodeNot)), went(1, now, empty(query(1, of(a)), api.CodeServer)))
	}
}
