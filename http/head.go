package http

import (
	"strings"

	"cicerone/api"
)

// What a request's head has; names and values of fields in small letters, in which they are held against these.
const (
	requestLine = "POST /dns-query HTTP/1.1"
	messageType = "application/dns-message"

	typeName       = "content-type"
	lengthName     = "content-length"
	encodingName   = "transfer-encoding"
	connectionName = "connection"

	inChunks  = "chunked"
	closing   = "close"
	remaining = "keep-alive"
)

// digits are those of a length, mostDigits how many it has at most.
const (
	digits     = "0123456789"
	mostDigits = 5
)

// head is what the fields of a request's head say: how many tell the body's type, its length or that it is in chunks, and of the connection; and what they tell.
type head struct {
	types, lengths, connections int
	size                        int
	chunked, closes             bool
}

// readHead is what a whole head says, if it is a request's.
func readHead(text string) (head, bool) {
	lines := strings.Split(strings.TrimSuffix(text, lineEnd+lineEnd), lineEnd)
	if lines[0] != requestLine {
		return head{}, false
	}
	var h head
	for _, line := range lines[1:] {
		if !h.takeLine(line) {
			return head{}, false
		}
	}
	return h, h.types == 1 && h.lengths == 1 && h.connections <= 1
}

// takeLine takes a line behind the first one, if it is a field that may be.
func (h *head) takeLine(line string) bool {
	name, value, ok := strings.Cut(line, ":")
	return ok && isName(name) && h.takeField(strings.ToLower(name), strings.ToLower(strings.Trim(value, " \t")))
}

// isName tells whether a text may be a field's name.
func isName(text string) bool {
	for i := range len(text) {
		c := text[i]
		if !(c >= 'a' && c <= 'z' || c >= 'A' && c <= 'Z' || c >= '0' && c <= '9' || c == '-') {
			return false
		}
	}
	return text != ""
}

// takeField takes a field, if its value may be. One that is there too often is told by the counts.
func (h *head) takeField(name, value string) bool {
	switch name {
	case typeName:
		h.types++
		return value == messageType
	case connectionName:
		h.connections++
		h.closes = value == closing
		return h.closes || value == remaining
	case encodingName:
		if value != inChunks {
			return false
		}
		h.chunked = true
		// It stands in the place of a length, so it counts as one.
		fallthrough
	case lengthName:
		h.lengths++
		// With chunks a length is one too many, whatever it tells.
		return h.chunked || h.takeLength(value)
	}
	return true
}

// takeLength takes a body's length, if it may be one.
func (h *head) takeLength(text string) bool {
	size, ok := decimal(text)
	h.size = size
	return ok && size <= api.MaxBody
}

// decimal is the number that a text tells, if it has as many digits as a length may have, and nothing else.
func decimal(text string) (int, bool) {
	if len(text) < 1 || len(text) > mostDigits || strings.Trim(text, digits) != "" {
		return 0, false
	}
	n := 0
	for i := range len(text) {
		n = n*10 + int(text[i]-'0')
	}
	return n, true
}
