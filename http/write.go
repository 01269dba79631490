package http

import (
	"bytes"
	"strconv"
	"strings"

	"cicerone/api"
	"cicerone/chunk"
)

// Codes of replies, and the lines that requests and replies are written with.
const (
	codeOK  = 200
	codeBad = 400

	okLine      = "HTTP/1.1 200 OK" + lineEnd
	badLine     = "HTTP/1.1 400 Bad Request" + lineEnd
	hostLine    = "Host: resolver" + lineEnd
	typeLine    = "Content-Type: " + messageType + lineEnd
	chunkedLine = "Transfer-Encoding: chunked" + lineEnd
	closeLine   = "Connection: close" + lineEnd
	lengthStart = "Content-Length: "
)

// askedChunk is how many bytes a chunk of a request that is asked has.
const askedChunk = 100

// lengthLine is the line that tells a body's length.
func lengthLine(size int) string { return lengthStart + strconv.Itoa(size) + lineEnd }

// Reply is a reply's bytes.
func Reply(code int, body []byte, keep bool) ([]byte, api.Errno) {
	switch {
	case code == codeOK && len(body) <= api.MaxBody:
	case code == codeBad && len(body) == 0 && !keep:
	default:
		return nil, api.ErrArg
	}
	return append([]byte(replyHead(code, len(body), keep)), body...), api.OK
}

// replyHead is a reply's lines ahead of a body of so many bytes.
func replyHead(code, size int, keep bool) string {
	head := badLine
	if code == codeOK {
		head = okLine + typeLine
	}
	head += lengthLine(size)
	if !keep {
		head += closeLine
	}
	return head + lineEnd
}

// ParseReply is the code and body of a reply, and what stands behind.
func ParseReply(b []byte) (int, []byte, []byte, api.Errno) {
	size := toldSize(b)
	fault := api.ErrHTTP
	for _, may := range []struct {
		code, size int
		keep       bool
	}{{codeOK, size, true}, {codeOK, size, false}, {codeBad, 0, false}} {
		head := replyHead(may.code, may.size, may.keep)
		rest, ok := bytes.CutPrefix(b, []byte(head))
		if ok && len(rest) >= may.size {
			return may.code, bytes.Clone(rest[:may.size]), bytes.Clone(rest[may.size:]), api.OK
		}
		if ok || len(b) < len(head) && strings.HasPrefix(head, string(b)) {
			fault = api.ErrShort
		}
	}
	return 0, nil, nil, fault
}

// toldSize is the length that a reply of code 200 tells of its body, as far as its digits are looked at; 0, where these tell none. Only then is it known whether the bytes go on as a reply of that length does.
func toldSize(b []byte) int {
	behind, ok := bytes.CutPrefix(b, []byte(okLine+typeLine+lengthStart))
	if !ok {
		return 0
	}
	text := string(behind[:min(len(behind), mostDigits)])
	size, ok := decimal(text[:len(text)-len(strings.TrimLeft(text, digits))])
	if !ok || size > api.MaxBody {
		return 0
	}
	return size
}

// Ask is a request's bytes.
func Ask(body []byte, chunked bool) ([]byte, api.Errno) {
	if len(body) > api.MaxBody {
		return nil, api.ErrArg
	}
	head := requestLine + lineEnd + hostLine + typeLine
	if !chunked {
		head += lengthLine(len(body)) + lineEnd
		return append([]byte(head), body...), api.OK
	}
	chunks, e := chunk.Encode(body, askedChunk)
	return append([]byte(head+chunkedLine+lineEnd), chunks...), e
}
