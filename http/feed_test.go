package http_test

import (
	"fmt"
	"slices"
	"strings"
	"testing"

	"cicerone/api"
	"cicerone/http"
)

// P13.1: the chapter's example.
func TestFeedExample(t *testing.T) {
	b, e := http.Ask([]byte("abc"), false)
	if e != api.OK {
		t.Fatal(e)
	}
	right(t, string(b), kept("abc"))
}

// P13.1: a new reader has nothing, and has not ended.
func TestNew(t *testing.T) {
	r := http.New()
	if r == nil || r.Ended() {
		t.Fatal("New is a reader that has ended, or none")
	}
	feeds(t, r, "", api.OK, false)
}

// P13.1: requests with a length, and in chunks; kept, and not.
func TestFeedOne(t *testing.T) {
	for _, body := range []string{"", "a", "abc", "\x00\xff\r\n\r\n", "POST /dns-query HTTP/1.1\r\n\r\n", of(99), of(100), of(101), of(5000)} {
		right(t, sized(body), kept(body))
		right(t, sized(body, keepField), kept(body))
		right(t, sized(body, closeField), closed(body))
		for _, size := range []int{1, 2, 100, 4096} {
			right(t, chunked(body, size), kept(body))
			right(t, chunked(body, size, keepField), kept(body))
			right(t, chunked(body, size, closeField), closed(body))
		}
	}
}

// P13.1: several requests, of both forms, one behind the other; the last one is perhaps not kept.
func TestFeedSeveral(t *testing.T) {
	some := sized("a") + sized("") + chunked("bc", 1, keepField) + chunked("", 1) + sized(of(300), keepField) + chunked(of(300), 7) + sized("")
	want := []told{kept("a"), kept(""), kept("bc"), kept(""), kept(of(300)), kept(of(300)), kept("")}
	right(t, some, want...)
	right(t, some+sized("last", closeField), append(want[:7:7], closed("last"))...)
	right(t, some+sized("", closeField), append(want[:7:7], closed(""))...)
	right(t, some+chunked("last", 3, closeField), append(want[:7:7], closed("last"))...)
}

// P13.1: a request is told with the feed that makes it whole, and once.
func TestFeedOnce(t *testing.T) {
	r := http.New()
	one, two := sized("one"), chunked("two", 2)
	feeds(t, r, one[:30], api.OK, false)
	feeds(t, r, one[30:len(one)-1], api.OK, false)
	feeds(t, r, one[len(one)-1:]+two[:9], api.OK, false, kept("one"))
	feeds(t, r, two[9:]+one+one[:7], api.OK, false, kept("two"), kept("one"))
	for range 3 {
		feeds(t, r, "", api.OK, false)
	}
	feeds(t, r, one[7:], api.OK, false, kept("one"))
	feeds(t, r, "", api.OK, false)
}

// P13.1: feeds of no bytes change nothing, in whichever state.
func TestFeedNothing(t *testing.T) {
	for _, stream := range []string{
		sized("ab") + chunked("cde", 2) + sized("", keepField) + sized("f", closeField) + "rest",
		chunked("", 1) + sized("ab")[:40] + "\n" + sized("more"),
		sized("ab", "no field") + "x",
	} {
		r := http.New()
		had := outcome{}
		for i := range len(stream) + 1 {
			for _, none := range [][]byte{nil, {}, make([]byte, 0, 5)} {
				if l, e := r.Feed(none); len(l) != 0 || e != api.OK || r.Ended() != had.ended {
					t.Errorf("behind %q no bytes are %v, %d, %t", stream[:i], l, e, r.Ended())
				}
			}
			if i < len(stream) {
				fed(r, stream[i:i+1])
				had = plain(stream[:i+1])
			}
		}
	}
}

// P13.1: bytes that are no part of any line, at each place of a head, are told at once.
func TestBytes(t *testing.T) {
	head := posted(typeField, "X: y", sizeField(3))
	for i := range len(head) {
		behind := i > 0 && head[i-1] == '\r'
		for c := range 256 {
			b := string([]byte{byte(c)})
			part := c >= ' ' && c <= '~' || c == '\t' || c == '\r'
			if behind && c != '\n' || !behind && !part {
				wrong(t, head[:i]+b)
				if r := http.New(); i%9 == 0 {
					feeds(t, r, sized("ab")+head[:i]+b, api.ErrHTTP, true, kept("ab"))
					over(t, r)
				}
			}
		}
	}
}

// P13.1: all bytes that are part of lines may stand in a value; none but those of names in a name.
func TestBytesParts(t *testing.T) {
	for c := range 256 {
		b := string([]byte{byte(c)})
		letter := c >= '0' && c <= '9' || c >= 'A' && c <= 'Z' || c >= 'a' && c <= 'z' || c == '-'
		switch {
		case c >= ' ' && c <= '~' || c == '\t':
			right(t, sized("z", "X:"+b), kept("z"))
			right(t, sized("z", "X: a"+b+b+"c"), kept("z"))
			if letter {
				right(t, sized("z", b+":"), kept("z"))
				right(t, sized("z", "X"+b+"y:"), kept("z"))
			} else if c != ':' {
				wrong(t, posted(typeField, sizeField(0), b+": x"))
				wrong(t, posted(typeField, sizeField(0), "X"+b+": x"))
				wrong(t, posted(typeField, sizeField(0), b+"X: x"))
			}
		case c != '\r':
			wrong(t, postLine+"\r\n"+typeField+"\r\n"+"X: "+b)
			wrong(t, postLine+"\r\n"+typeField+"\r\n"+"X: a"+b)
			wrong(t, b)
		}
	}
}

// P13.1: 13 and 10 alone, in each line.
func TestMarks(t *testing.T) {
	for _, ahead := range []string{"", postLine, postLine + "\r\n", postLine + "\r\n" + typeField, postLine + "\r\nX:", postLine + "\r\nX: a\r\nY: b\r\n"} {
		wrong(t, ahead+"\n")
		wrong(t, ahead+"\r\r")
		wrong(t, ahead+"\r ")
		wrong(t, ahead+"\rX")
		wrong(t, ahead+"\r\t")
		wrong(t, ahead+"\r\x00")
		wrong(t, sized("q", keepField)+ahead+"\n", kept("q"))
		wrong(t, sized("q")+chunked("", 1)+ahead+"\rX", kept("q"), kept(""))
	}
	wrong(t, sized("")+"\n", kept(""))
	wrong(t, sized("abc")+"\n", kept("abc"))
	wrong(t, sized("a\r")+"\n", kept("a\r"))
	wrong(t, sized("abc")+"\r\r", kept("abc"))
	wrong(t, sized("abc")+"\r\n", kept("abc"))
	wrong(t, chunked("abc", 3)+"\n", kept("abc"))
	wrong(t, chunked("abc", 3)+"\r\n", kept("abc"))
	right(t, sized("\n\r\x00"), kept("\n\r\x00"))
}

// filled is the head of a request with a body of 3 bytes, filled up to so many bytes by a field.
func filled(size int) string {
	return posted(typeField, sizeField(3), "X:"+times(size-len(posted(typeField, sizeField(3), "X:")), "x"))
}

// P13.1: a head of MaxHead bytes is one; with one more it is told at the last byte that could have ended it.
func TestHeadLength(t *testing.T) {
	for _, size := range []int{mostHead - 300, mostHead - 2, mostHead - 1, mostHead} {
		if head := filled(size); len(head) != size {
			t.Fatalf("a head of %d bytes", len(head))
		}
		right(t, filled(size)+"abc", kept("abc"))
		right(t, filled(size)+"abc"+filled(mostHead)+"def"+sized("g"), kept("abc"), kept("def"), kept("g"))
	}
	for more := 1; more < 6; more++ {
		wrong(t, filled(mostHead + more)[:mostHead])
		wrong(t, sized("abc")+filled(mostHead + more)[:mostHead], kept("abc"))
	}
}

// P13.1: heads that never end, whichever lines they have.
func TestHeadLong(t *testing.T) {
	for _, part := range []string{"x", " ", "\t", "a:\r\n", ":\r\n", postLine + "\r\n", "Content-Length: 1\r\n", "abc: def ghi\r\n"} {
		wrong(t, times(mostHead, part)[:mostHead])
		wrong(t, (postLine + "\r\n" + times(mostHead, part))[:mostHead])
		wrong(t, sized(of(9))+times(mostHead, part)[:mostHead], kept(of(9)))
	}
	wrong(t, times(mostHead-1, "x")+"\r")
	wrong(t, times(mostHead-2, "x")+"\r\n")
	wrong(t, times(mostHead-3, "x")+"\r\n\r")
	wrong(t, times(mostHead-4, "x")+"\r\n\r\n")
	wrong(t, times(mostHead-1, "x")+"\n")
	right(t, posted(typeField, sizeField(1), times(300, "a:\r\n")+"a:")+"z", kept("z"))
}

// P13.1: a first line that is another, or none, is told with the end of the head and not ahead.
func TestFirstLine(t *testing.T) {
	for _, line := range []string{
		"GET /dns-query HTTP/1.1", "post /dns-query HTTP/1.1", "POST /DNS-query HTTP/1.1", "POST /dns-query http/1.1", "POST /dns-query HTTP/1.0", "POST /dns-query HTTP/1.2", "POST /dns-query HTTP/1.11",
		"POST / HTTP/1.1", "POST /dns-query/ HTTP/1.1", "POST /dns-query?a HTTP/1.1", "POST  /dns-query HTTP/1.1", "POST /dns-query  HTTP/1.1", " POST /dns-query HTTP/1.1", "POST /dns-query HTTP/1.1 ", "POST\t/dns-query HTTP/1.1",
		"POST /dns-query", "POST", "OST /dns-query HTTP/1.1", "POST /dns-query HTTP/1.", "X: y", typeField, "HTTP/1.1 200 OK",
	} {
		wrong(t, lines(line, typeField, sizeField(3)))
		wrong(t, lines(line))
		wrong(t, lines(line, postLine, typeField, sizeField(3)))
		wrong(t, sized("abc")+lines(line, typeField, sizeField(3)), kept("abc"))
	}
	wrong(t, "\r\n")
	wrong(t, lines(postLine))
	wrong(t, lines(postLine, postLine, typeField, sizeField(3)))
	wrong(t, lines(typeField, postLine, sizeField(3)))
	wrong(t, lines(typeField, sizeField(3)))
	right(t, sized("abc"), kept("abc"))
}

// P13.1: lines that are no fields, at each place behind the first line.
func TestFieldsNone(t *testing.T) {
	for _, line := range []string{"x", "X y", ":", ": y", " X: y", "\tX: y", "X : y", "X\t: y", "X_: y", "X.Y: z", "X/: y", "X Y: z", "-- -: y", "(: y", "Content-Type", "Content-Length 3", "application/dns-message", " chunked", "\"X\": y", "@:", "[:", "`:", "{:", "/:", ";:", "~:"} {
		wrong(t, posted(line))
		wrong(t, posted(line, typeField, sizeField(0)))
		wrong(t, posted(typeField, line, sizeField(0)))
		wrong(t, posted(typeField, sizeField(0), line))
		wrong(t, posted(typeField, line, chunkField))
	}
}

// P13.1: other fields play no part, whatever they have and however often they are there.
func TestFieldsOther(t *testing.T) {
	for _, line := range []string{"X:", "x: y", "X:y", "X:: y", "X: y: z", "-: y", "0: y", "9-a-Z: y", "---:", "X: \t ", "Host: resolver", "Content-Types: x", "Content-Typ: text/plain", "XContent-Type: x", "Content-Lengt: 9", "Content-Lengths: 9", "Connections: x", "Connectio: close", "Transfer-Encodings: x", "Transfer: chunked", "TE: chunked", "Accept: text/plain, */*;q=0.5", "X: Connection: close", "Content-Encoding: gzip"} {
		right(t, sized("abc", line), kept("abc"))
		right(t, sized("abc", line, line, line, closeField, line), closed("abc"))
		right(t, chunked("abc", 2, line, line), kept("abc"))
		right(t, posted(line, typeField, line, sizeField(3))+"abc", kept("abc"))
	}
}

// P13.1: names and values count in small and capital letters, and without blanks and 9 at both ends.
func TestLetters(t *testing.T) {
	for _, how := range []func(string) string{
		func(s string) string { return s }, strings.ToUpper, strings.ToLower,
		func(s string) string { return strings.ReplaceAll(s, ": ", ":") },
		func(s string) string { return strings.ReplaceAll(s, ": ", ":\t \t\t  ") + " \t\t " },
		func(s string) string { return strings.ToUpper(s) + "\t" },
		func(s string) string { return strings.ReplaceAll(s, "e", "E") + " " },
		func(s string) string { return strings.ReplaceAll(strings.ToUpper(s), "N", "n") },
	} {
		right(t, posted(how(typeField), how(sizeField(3)))+"abc", kept("abc"))
		right(t, posted(how(sizeField(3)), how(closeField), how(typeField))+"abc", closed("abc"))
		right(t, posted(how(keepField), how(chunkField), how(typeField))+"3\r\nabc\r\n0\r\n\r\n", kept("abc"))
		right(t, posted(how(typeField), how(chunkField), how(closeField))+"3\r\nabc\r\n0\r\n\r\n", closed("abc"))
		wrong(t, posted(how(typeField), how(sizeField(3)), how(sizeField(3))))
		wrong(t, posted(how(typeField), how(chunkField), how(sizeField(3))))
		wrong(t, posted(how(typeField), how(sizeField(3)), how(closeField), how(keepField)))
	}
}

// P13.1: blanks and 9 within a value, or other bytes about it, make it another one.
func TestValues(t *testing.T) {
	length := []string{sizeField(3)}
	for field, others := range map[string][]string{
		typeField: length, chunkField: nil, closeField: length, keepField: length,
	} {
		if field != typeField {
			others = append(others, typeField)
		}
		name, value, _ := strings.Cut(field, ": ")
		for _, other := range []string{
			"", " ", value + value, value + " " + value, value + "\t\t" + value, value + ", " + value, value + ",", "," + value, value + ";",
			"\"" + value + "\"", value[:1] + " " + value[1:], "-" + value, value + ".", ": " + value, value[1:], value[:len(value)-1],
		} {
			wrong(t, posted(append(slices.Clone(others), name+": "+other)...))
			wrong(t, posted(append([]string{name + ":" + other + "\t"}, others...)...))
		}
	}
	for _, kind := range []string{"application/dns-json", "application/dns", "dns-message", "application/dns-message; charset=utf-8", "application/*", "*/*", "text/plain", "application / dns-message"} {
		wrong(t, posted("Content-Type: "+kind, sizeField(3)))
	}
	for _, coding := range []string{"gzip", "identity", "gzip, chunked", "chunked, chunked", "chunke", "3"} {
		wrong(t, posted(typeField, "Transfer-Encoding: "+coding))
	}
}

// P13.1: each needed field missing, or twice; a length together with chunks.
func TestNeeded(t *testing.T) {
	wrong(t, posted())
	wrong(t, posted(typeField))
	wrong(t, posted(sizeField(3)))
	wrong(t, posted(chunkField))
	wrong(t, posted(closeField))
	wrong(t, posted("X: y"))
	wrong(t, posted(typeField, keepField))
	wrong(t, posted(typeField, typeField, sizeField(3)))
	wrong(t, posted(typeField, sizeField(3), typeField))
	wrong(t, posted(typeField, chunkField, typeField))
	wrong(t, posted(typeField, sizeField(3), sizeField(3)))
	wrong(t, posted(typeField, sizeField(3), sizeField(4)))
	wrong(t, posted(typeField, sizeField(0), sizeField(0)))
	wrong(t, posted(typeField, chunkField, chunkField))
	wrong(t, posted(typeField, sizeField(3), chunkField))
	wrong(t, posted(typeField, chunkField, sizeField(3)))
	wrong(t, posted(typeField, chunkField, sizeField(0)))
	wrong(t, posted(typeField, chunkField, "Content-Length: x"))
	wrong(t, posted(sizeField(3), typeField, "X: y", sizeField(3)))
	wrong(t, posted(typeField, sizeField(3), "Content-Type: text/plain"))
	wrong(t, posted("Content-Type: text/plain", sizeField(3), typeField))
	wrong(t, posted(typeField, sizeField(3), "Transfer-Encoding: gzip"))
}

// P13.1: the fields in each order.
func TestOrder(t *testing.T) {
	for _, length := range []string{sizeField(3), chunkField} {
		body := "abc"
		if length == chunkField {
			body = "1\r\na\r\n2\r\nbc\r\n0\r\n\r\n"
		}
		for i := range 4 {
			for j := range 3 {
				for k := range 2 {
					fields := slices.Insert([]string{typeField}, k, length)
					fields = slices.Insert(fields, j, closeField)
					fields = slices.Insert(fields, i, "X: y")
					right(t, posted(fields...)+body, closed("abc"))
				}
			}
		}
	}
}

// P13.1: lengths of 1 to 5 digits, with noughts ahead, up to MaxBody.
func TestLengths(t *testing.T) {
	for digits, size := range map[string]int{
		"0": 0, "00": 0, "000": 0, "0000": 0, "00000": 0, "1": 1, "01": 1, "00001": 1, "9": 9, "00009": 9, "10": 10, "010": 10, "08": 8, "99": 99, "100": 100, "0100": 100, "00100": 100,
		"255": 255, "256": 256, "999": 999, "1000": 1000, "01234": 1234, "9999": 9999, "10000": 10000, "60000": 60000, "65499": 65499, "65530": 65530, "65534": 65534, "65535": 65535,
	} {
		body := of(size)
		right(t, posted(typeField, "Content-Length: "+digits)+body, kept(body))
		right(t, posted("Content-Length:"+digits+"\t ", typeField, closeField)+body, closed(body))
	}
	for size := 1; size <= most; size = size*3/2 + 1 {
		for digits := fmt.Sprint(size); len(digits) <= 5; digits = "0" + digits {
			head, body := posted(typeField, "Content-Length: "+digits), of(size)
			feeds(t, http.New(), head+body, api.OK, false, kept(body))
			feeds(t, http.New(), head+body[1:], api.OK, false)
		}
	}
}

// P13.1: lengths of no digits, of six, of more than MaxBody, and what is none.
func TestLengthsWrong(t *testing.T) {
	for _, digits := range []string{
		"", " ", "000000", "000001", "000003", "0000000000000", "100000", "123456", "65536", "65537", "65540", "65600", "66000", "70000", "99999", "4294967299", "18446744073709551619",
		"-1", "-0", "+3", "3.", "3.0", "0x3", "a", "3a", "a3", "3 3", "3\t3", "3,3", "3, 3", "1e1", "1_0", "three", "/", ":", "3/", "3:", "/3", ":3", "3-3", "\"3\"",
	} {
		wrong(t, posted(typeField, "Content-Length: "+digits))
		wrong(t, posted("Content-Length: "+digits, typeField))
	}
}

// P13.1: connection once with close, with keep-alive, or not at all.
func TestConnection(t *testing.T) {
	right(t, sized("a"), kept("a"))
	right(t, sized("a", keepField), kept("a"))
	right(t, sized("a", closeField), closed("a"))
	right(t, sized("a", "Keep-Alive: close"), kept("a"))
	for _, two := range [][]string{{closeField, closeField}, {keepField, keepField}, {closeField, keepField}, {keepField, closeField}} {
		wrong(t, posted(append(two, typeField, sizeField(1))...))
		wrong(t, posted(append(two, typeField, chunkField)...))
	}
	for _, other := range []string{"", "upgrade", "closed", "clos", "keep", "alive", "keep-alive, close", "close, keep-alive", "keepalive", "keep alive", "TE", "close;", "keep-alive: close"} {
		wrong(t, posted("Connection: "+other, typeField, sizeField(1)))
		wrong(t, posted(typeField, sizeField(1), "Connection:"+other))
	}
}

// P13.1: a wrong chunk is told at its first wrong byte.
func TestChunksWrong(t *testing.T) {
	head := posted(typeField, chunkField)
	for _, body := range []string{"\r", "\n", "x", " ", "3;", "3 ", "3\n", "3\rX", "3\r\nabcX", "3\r\nabc\n", "3\r\nabc\rX", "3\r\nabc\r\nX", "0\r\nX", "0\r\n\rX", "0\r\n\n", "0000000", "1234567", "-", "1\r\na\r\n\r"} {
		wrong(t, head+body)
		wrong(t, sized("ab")+head+body, kept("ab"))
	}
	right := "3\r\nabc\r\n0\r\n\r\n"
	for i := range right {
		if i < 3 || i > 5 {
			wrong(t, head+right[:i]+"\x00")
			wrong(t, head+right[:i]+"X")
		}
	}
}

// P13.1: a body too long in chunks is told at the 13 behind the digits.
func TestChunksLong(t *testing.T) {
	head := posted(chunkField, typeField)
	great := fmt.Sprintf("%x\r\n%s\r\n", most, of(most))
	right(t, head+great+"0\r\n\r\n", kept(of(most)))
	wrong(t, head+great+"1\r")
	wrong(t, head+great+"00ffff\r")
	wrong(t, head+"10000\r")
	wrong(t, head+"ffffff\r")
	wrong(t, head+"1\r\na\r\nffff\r")
	right(t, head+"1\r\na\r\nfffe\r\n"+of(most-1)+"\r\n0\r\n\r\n", kept("a"+of(most-1)))
	right(t, chunked(of(most), 1000)+sized("b")+chunked(of(most), most, closeField), kept(of(most)), kept("b"), closed(of(most)))
	right(t, sized(of(most))+sized(of(most), closeField), kept(of(most)), closed(of(most)))
}

// P13.1: bytes behind a request that is not kept play no part, whatever they are.
func TestBehindClosed(t *testing.T) {
	for _, last := range []string{sized("ab", closeField), chunked("ab", 1, closeField)} {
		for _, behind := range []string{"\n", "x", "\r\n", sized("more"), "GET / HTTP/1.1\r\n\r\n", times(5000, "\x00")} {
			r := http.New()
			feeds(t, r, sized("a")+last+behind, api.OK, true, kept("a"), closed("ab"))
			over(t, r)
			cut(t, bytewise(last+behind)...)
		}
	}
	r := http.New()
	feeds(t, r, sized("", closeField)+"\n", api.OK, true, closed(""))
	over(t, r)
	r = http.New()
	head := sized("ab", closeField)
	feeds(t, r, head[:len(head)-2], api.OK, false)
	feeds(t, r, "ab\n", api.OK, true, closed("ab"))
	over(t, r)
}

// P13.1: with an error stand the requests ahead of it that its feed made whole, those alone.
func TestErrorBehind(t *testing.T) {
	r := http.New()
	one := sized("one")
	feeds(t, r, one+one[:20], api.OK, false, kept("one"))
	feeds(t, r, one[20:]+chunked("two", 1)+sized("")+"X\n"+one, api.ErrHTTP, true, kept("one"), kept("two"), kept(""))
	over(t, r)
	r = http.New()
	feeds(t, r, one, api.OK, false, kept("one"))
	feeds(t, r, "\n", api.ErrHTTP, true)
	over(t, r)
}

// Objects: a nil reader, and one that no call made.
func TestNoReader(t *testing.T) {
	made := http.New()
	made.Feed([]byte(sized("abc")[:50]))
	*made = http.Reader{}
	for _, r := range []*http.Reader{nil, {}, new(http.Reader), made} {
		for _, b := range []string{"", "\n", "x", sized("abc"), sized("abc", closeField), times(3000, "x")} {
			feeds(t, r, b, api.ErrNil, false)
		}
		if l, e := r.Feed(nil); len(l) != 0 || e != api.ErrNil {
			t.Errorf("Feed(nil) is %v, %d", l, e)
		}
	}
}

// From arguments alone: readers know nothing of one another.
func TestTwoReaders(t *testing.T) {
	a, b, c := http.New(), http.New(), http.New()
	one, two := sized("one"), chunked("two", 1)
	feeds(t, a, one[:30], api.OK, false)
	feeds(t, b, two[:len(two)-9], api.OK, false)
	feeds(t, c, "\n", api.ErrHTTP, true)
	feeds(t, a, one[30:], api.OK, false, kept("one"))
	feeds(t, b, two[len(two)-9:], api.OK, false, kept("two"))
	over(t, c)
	feeds(t, http.New(), one, api.OK, false, kept("one"))
}

// Ends: many requests, in one feed and in many; and a great feed that is none.
func TestFeedMany(t *testing.T) {
	const n = 20000
	stream := times(n, sized("ab")+chunked("c", 1))
	want := slices.Repeat([]told{kept("ab"), kept("c")}, n)
	feeds(t, http.New(), stream, api.OK, false, want...)
	r := http.New()
	var got []told
	for part := range slices.Chunk([]byte(stream), 1000) {
		l, _ := r.Feed(part)
		got = append(got, all(l)...)
	}
	if !slices.Equal(got, want) {
		t.Errorf("many feeds tell %d requests", len(got))
	}
	r = http.New()
	feeds(t, r, times(1<<24, "x"), api.ErrHTTP, true)
	over(t, r)
}
