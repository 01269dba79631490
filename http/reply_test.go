package http_test

import (
	"fmt"
	"math"
	"sort"
	"strings"
	"testing"

	"cicerone/api"
	"cicerone/http"
)

// okHead is the lines ahead of a body of so many bytes, badReply all bytes of code 400.
func okHead(size int, keep bool) string {
	fields := []string{"HTTP/1.1 200 OK", "Content-Type: application/dns-message", fmt.Sprintf("Content-Length: %d", size)}
	if !keep {
		fields = append(fields, "Connection: close")
	}
	return lines(fields...)
}

const badReply = "HTTP/1.1 400 Bad Request\r\nContent-Length: 0\r\nConnection: close\r\n\r\n"

// replies asks for what Reply answers.
func replies(t *testing.T, code int, body string, keep bool, want string) {
	t.Helper()
	b, e := http.Reply(code, []byte(body), keep)
	if e != api.OK || string(b) != want {
		t.Errorf("Reply(%d, %d bytes, %t) is %.200q, %d, not %.200q", code, len(body), keep, b, e, want)
	}
}

// P13.2: replies, as bytes.
func TestReply(t *testing.T) {
	replies(t, 200, "hi", true, "HTTP/1.1 200 OK\r\nContent-Type: application/dns-message\r\nContent-Length: 2\r\n\r\nhi")
	replies(t, 200, "hi", false, "HTTP/1.1 200 OK\r\nContent-Type: application/dns-message\r\nContent-Length: 2\r\nConnection: close\r\n\r\nhi")
	replies(t, 200, "", true, "HTTP/1.1 200 OK\r\nContent-Type: application/dns-message\r\nContent-Length: 0\r\n\r\n")
	replies(t, 200, "", false, "HTTP/1.1 200 OK\r\nContent-Type: application/dns-message\r\nContent-Length: 0\r\nConnection: close\r\n\r\n")
	replies(t, 400, "", false, "HTTP/1.1 400 Bad Request\r\nContent-Length: 0\r\nConnection: close\r\n\r\n")
	for _, size := range []int{1, 9, 10, 99, 100, 999, 1000, 9999, 10000, most - 1, most} {
		for _, keep := range []bool{false, true} {
			replies(t, 200, of(size), keep, okHead(size, keep)+of(size))
		}
	}
}

// P13.2: codes that are none, bodies too long, and what 400 does not go with.
func TestReplyWrong(t *testing.T) {
	for _, w := range []struct {
		code, size int
		keep       bool
	}{
		{404, 0, false}, {0, 0, false}, {-200, 0, false}, {199, 0, false}, {201, 0, true}, {399, 0, false}, {401, 0, false}, {500, 0, false}, {204, 0, true}, {2, 0, true}, {math.MaxInt, 0, false}, {math.MinInt, 0, false},
		{200 + 1<<32, 0, true}, {201, 3, true}, {404, most + 1, true}, {200, most + 1, true}, {200, most + 1, false}, {200, 1 << 20, true},
		{400, 0, true}, {400, 1, false}, {400, 1, true}, {400, most, false}, {400, most + 1, false}, {400, 1 << 20, true},
	} {
		room := []byte(of(w.size))
		b, e := http.Reply(w.code, room, w.keep)
		if len(b) != 0 || e != api.ErrArg {
			t.Errorf("Reply(%d, %d bytes, %t) is %.30q, %d", w.code, w.size, w.keep, b, e)
		}
		if string(room) != of(w.size) {
			t.Errorf("Reply(%d, %d bytes, %t) has changed the body", w.code, w.size, w.keep)
		}
	}
}

// P13.2: bodies that are nil, empty, or empty with room.
func TestReplyNone(t *testing.T) {
	for _, none := range [][]byte{nil, {}, make([]byte, 0, 9)} {
		if b, e := http.Reply(200, none, true); string(b) != okHead(0, true) || e != api.OK {
			t.Errorf("Reply of %#v is %q, %d", none, b, e)
		}
		if b, e := http.Reply(400, none, false); string(b) != badReply || e != api.OK {
			t.Errorf("Reply of 400 with %#v is %q, %d", none, b, e)
		}
		for _, chunked := range []bool{false, true} {
			asks(t, "", chunked)
		}
		if code, body, rest, e := http.ParseReply(none); code != 0 || len(body) != 0 || len(rest) != 0 || e != api.ErrShort {
			t.Errorf("ParseReply(%#v) is %d, %q, %q, %d", none, code, body, rest, e)
		}
	}
}

// asks asks for what Ask answers, by the chapter's words.
func asks(t *testing.T, body string, chunked bool) {
	t.Helper()
	fields := []string{postLine, "Host: resolver", typeField, sizeField(len(body))}
	behind := body
	if chunked {
		fields[3], behind = chunkField, ""
		for from := 0; from < len(body); from += 100 {
			part := body[from:min(from+100, len(body))]
			behind += fmt.Sprintf("%x\r\n%s\r\n", len(part), part)
		}
		behind += "0\r\n\r\n"
	}
	b, e := http.Ask([]byte(body), chunked)
	if e != api.OK || string(b) != lines(fields...)+behind {
		t.Errorf("Ask(%d bytes, %t) is %d bytes %.300q, %d", len(body), chunked, len(b), b, e)
	}
}

// P13.3: requests, as bytes.
func TestAsk(t *testing.T) {
	b, e := http.Ask([]byte("abc"), false)
	if e != api.OK || string(b) != "POST /dns-query HTTP/1.1\r\nHost: resolver\r\nContent-Type: application/dns-message\r\nContent-Length: 3\r\n\r\nabc" {
		t.Errorf("Ask is %q, %d", b, e)
	}
	b, e = http.Ask([]byte("abc"), true)
	if e != api.OK || string(b) != "POST /dns-query HTTP/1.1\r\nHost: resolver\r\nContent-Type: application/dns-message\r\nTransfer-Encoding: chunked\r\n\r\n3\r\nabc\r\n0\r\n\r\n" {
		t.Errorf("Ask in chunks is %q, %d", b, e)
	}
	for _, size := range []int{0, 1, 2, 9, 10, 99, 100, 101, 199, 200, 201, 1000, 9999, 10000, most - 1, most} {
		asks(t, of(size), false)
		asks(t, of(size), true)
	}
}

// P13.3: bodies too long.
func TestAskWrong(t *testing.T) {
	for _, size := range []int{most + 1, most + 2, 1 << 17, 1 << 20} {
		for _, chunked := range []bool{false, true} {
			if b, e := http.Ask(make([]byte, size), chunked); len(b) != 0 || e != api.ErrArg {
				t.Errorf("Ask(%d bytes, %t) is %d bytes, %d", size, chunked, len(b), e)
			}
		}
	}
}

// P13.5: what Ask writes is read, alone and one behind the other.
func TestAskRead(t *testing.T) {
	stream := ""
	var want []told
	for _, size := range []int{0, 1, 2, 99, 100, 101, 500, 4096, most - 1, most} {
		for _, chunked := range []bool{false, true} {
			b, _ := http.Ask([]byte(of(size)), chunked)
			right(t, string(b), kept(of(size)))
			stream += string(b)
			want = append(want, kept(of(size)))
		}
	}
	right(t, stream, want...)
}

// parsed is what ParseReply answers.
type parsed struct {
	code       int
	body, rest string
	e          api.Errno
}

func (p parsed) String() string {
	return fmt.Sprintf("%d, %d bytes %.30q, %d bytes %.30q, %d", p.code, len(p.body), p.body, len(p.rest), p.rest, p.e)
}

// parse is what ParseReply answers of bytes.
func parse(b string) parsed {
	code, body, rest, e := http.ParseReply([]byte(b))
	return parsed{code, string(body), string(rest), e}
}

// parses asks for what ParseReply answers.
func parses(t *testing.T, b string, want parsed) {
	t.Helper()
	if got := parse(b); got != want {
		t.Errorf("ParseReply of %d bytes %.200q is %v, not %v", len(b), b, got, want)
	}
}

// What no reply and what part of one comes to.
var (
	none  = parsed{e: api.ErrHTTP}
	short = parsed{e: api.ErrShort}
)

// allHeads is what all replies may begin with, sorted.
func allHeads() []string {
	l := []string{badReply}
	for size := range most + 1 {
		l = append(l, okHead(size, true), okHead(size, false))
	}
	sort.Strings(l)
	return l
}

// plainParse is what bytes are among all replies that there may be. No head is the beginning of another one.
func plainParse(heads []string, b string) parsed {
	at := sort.SearchStrings(heads, b)
	if at < len(heads) && heads[at] != b && strings.HasPrefix(heads[at], b) {
		return short
	}
	if at == len(heads) || heads[at] != b {
		at--
	}
	if at < 0 || !strings.HasPrefix(b, heads[at]) {
		return none
	}
	head, size := heads[at], 0
	if head == badReply {
		return parsed{code: 400, rest: b[len(head):]}
	}
	_, digits, _ := strings.Cut(head, "Content-Length: ")
	fmt.Sscanf(digits, "%d", &size)
	if behind := b[len(head):]; len(behind) >= size {
		return parsed{200, behind[:size], behind[size:], api.OK}
	}
	return short
}

// P13.2: each beginning of replies is too short, all of them is a reply, and what stands behind is told.
func TestParse(t *testing.T) {
	for _, body := range []string{"", "a", "hi", "\r\n\r\n", okHead(3, true), of(12), of(123)} {
		for _, w := range []struct {
			code int
			keep bool
		}{{200, true}, {200, false}, {400, false}} {
			if w.code == 400 {
				body = ""
			}
			b, _ := http.Reply(w.code, []byte(body), w.keep)
			for i := range b {
				parses(t, string(b[:i]), short)
			}
			for _, rest := range []string{"", "z", "\r\n", "\x00", string(b), string(b[:9]), of(70000)} {
				parses(t, string(b)+rest, parsed{w.code, body, rest, api.OK})
			}
		}
	}
}

// P13.5: what Reply writes is parsed, whichever size its body has.
func TestParseSizes(t *testing.T) {
	for _, size := range []int{0, 1, 9, 10, 11, 99, 100, 999, 1000, 6553, 6554, 9999, 10000, 59999, 60000, 65530, most - 1, most} {
		for _, keep := range []bool{false, true} {
			b, e := http.Reply(200, []byte(of(size)), keep)
			if e != api.OK {
				t.Fatalf("Reply of %d bytes is %d", size, e)
			}
			parses(t, string(b), parsed{200, of(size), "", api.OK})
			parses(t, string(b)+"rest", parsed{200, of(size), "rest", api.OK})
			parses(t, string(b)+string(b), parsed{200, of(size), string(b), api.OK})
			parses(t, string(b[:len(b)-1]), short)
			parses(t, string(b[:len(b)-size]), map[bool]parsed{true: {code: 200}, false: short}[size == 0])
		}
	}
}

// P13.2: lengths that Reply does not write.
func TestParseLengths(t *testing.T) {
	heads := allHeads()
	start := "HTTP/1.1 200 OK\r\nContent-Type: application/dns-message\r\nContent-Length: "
	for _, digits := range []string{"", "0", "1", "6", "7", "65", "655", "6553", "6554", "65535", "9999", "10000", "00", "01", "012", "000003", "65536", "65537", "6554 ", "65540", "66000", "70000", "99999", "100000", "655350", "123456", "4294967299", "18446744073709551619", "-1", "+1", " 1", "1 ", "x", "1x", "0x1", "1\r", "1\r\n", "1\n", "\r\n", "0\r", "00\r", "5\rX", "65536\r\n\r\n"} {
		for _, behind := range []string{"", "\r", "\r\n", "\r\n\r", "\r\n\r\n", "\r\n\r\nabc", "\r\nC", "\r\nConnection: close\r\n\r\n", "\r\nConnection: keep-alive\r\n\r\n", "\r\nX: y\r\n\r\n"} {
			parses(t, start+digits+behind, plainParse(heads, start+digits+behind))
		}
	}
	for _, digits := range []string{"65536", "00", "01", "70000", "100000", "-", " ", "\r"} {
		parses(t, start+digits, none)
	}
	for _, digits := range []string{"0", "7", "6553", "6554", "9999", "65535", ""} {
		parses(t, start+digits, short)
	}
}

// P13.2: what is no reply, and what is one to others.
func TestParseWrong(t *testing.T) {
	for _, b := range []string{
		"x", "\x00", "\r\n", "h", "http/1.1 200 OK", "HTTP/1.0", "HTTP/2", "HTTP/1.1  ", "HTTP/1.1 2000", "HTTP/1.1 201", "HTTP/1.1 404 Not Found\r\n\r\n", "HTTP/1.1 200 Ok", "HTTP/1.1 200 OK\n", "HTTP/1.1 200 OK \r\n",
		"HTTP/1.1 200 Bad Request", "HTTP/1.1 400 OK", "HTTP/1.1 400 Bad Request\r\nContent-Length: 1", "HTTP/1.1 400 Bad Request\r\nContent-Length: 00", "HTTP/1.1 400 Bad Request\r\nContent-Length: 0\r\n\r\n", "HTTP/1.1 400 Bad Request\r\nContent-Type", "HTTP/1.1 400 Bad Request\r\nConnection: close",
		"HTTP/1.1 200 OK\r\nContent-Length", "HTTP/1.1 200 OK\r\ncontent-type", "HTTP/1.1 200 OK\r\nContent-Type:  ", "HTTP/1.1 200 OK\r\nContent-Type: application/dns-message\r\nConnection", "HTTP/1.1 200 OK\r\nContent-Type: application/dns-message\r\n\r\n",
		okHead(3, true)[:30] + "x", " " + okHead(3, true) + "abc", "\r\n" + okHead(0, true), strings.ToLower(okHead(0, true)), strings.ReplaceAll(okHead(0, true), "\r\n", "\n"), postLine, sized("abc"), times(100000, "H"), times(100000, "1"),
	} {
		parses(t, b, none)
	}
	for _, b := range []string{"", "H", "HTTP/1.1 ", "HTTP/1.1 2", "HTTP/1.1 4", "HTTP/1.1 400 Bad Request\r\nConten", "HTTP/1.1 200 OK\r\nContent-T"} {
		parses(t, b, short)
	}
}

// P13.2: replies with one byte turned, left out, or put in, at each place.
func TestParseTurned(t *testing.T) {
	heads := allHeads()
	for _, reply := range []string{okHead(3, true) + "abc", okHead(3, false) + "abc", okHead(65535, true) + "abc", okHead(10, false) + "0123456789", okHead(0, true), badReply} {
		for i := range len(reply) {
			for c := range 256 {
				b := string([]byte{byte(c)})
				for _, s := range []string{reply[:i] + b + reply[i+1:], reply[:i] + b, reply[:i] + b + reply[i:] + "z"} {
					parses(t, s, plainParse(heads, s))
				}
			}
			s := reply[:i] + reply[i+1:]
			parses(t, s, plainParse(heads, s))
		}
	}
}

// Memory: replies and requests share nothing with bodies, nor with one another.
func TestWriteMemory(t *testing.T) {
	for name, write := range map[string]func(b []byte) []byte{
		"Reply":        func(b []byte) []byte { r, _ := http.Reply(200, b, true); return r },
		"Reply closed": func(b []byte) []byte { r, _ := http.Reply(200, b, false); return r },
		"Reply 400":    func(b []byte) []byte { r, _ := http.Reply(400, b[:0], false); return r },
		"Ask":          func(b []byte) []byte { r, _ := http.Ask(b, false); return r },
		"Ask chunked":  func(b []byte) []byte { r, _ := http.Ask(b, true); return r },
	} {
		for _, size := range []int{0, 1, 4, 100} {
			room := []byte(of(size) + "room behind it")
			was := whole(room)
			b, c := write(room[:size]), write(room[:size])
			want := string(c)
			if spoil(b); whole(room) != was || string(c) != want {
				t.Errorf("%s: with an answer the room became %q, another answer %q", name, whole(room), c)
			}
			if spoil(room); string(c) != want {
				t.Errorf("%s: with the body the answer became %q", name, c)
			}
			spoil(room)
			if d := write(room[:size]); string(d) != want {
				t.Errorf("%s: behind that an answer is %q", name, d)
			}
		}
	}
}

// Memory: a reply's body and what stands behind it share nothing with the bytes, nor with each other.
func TestParseMemory(t *testing.T) {
	for _, reply := range []string{okHead(3, true) + "abc", okHead(0, false), badReply} {
		for _, rest := range []string{"", "z", "behind"} {
			room := []byte(reply + rest + "room")
			was := whole(room)
			_, body, behind, e := http.ParseReply(room[:len(reply)+len(rest)])
			if e != api.OK || whole(room) != was {
				t.Errorf("ParseReply is %d, and has made the bytes %q", e, room)
			}
			hadBody, hadBehind := string(body), string(behind)
			if spoil(body); whole(room) != was || string(behind) != hadBehind {
				t.Errorf("with the body the bytes became %q, the rest %q", room, behind)
			}
			spoil(body)
			if spoil(behind); whole(room) != was || string(body) != hadBody {
				t.Errorf("with the rest the bytes became %q, the body %q", room, body)
			}
			spoil(behind)
			if spoil(room); string(body) != hadBody || string(behind) != hadBehind {
				t.Errorf("with the bytes the body became %q, the rest %q", body, behind)
			}
		}
	}
}
