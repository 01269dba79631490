package stream

import (
	"cicerone/api"
	"cicerone/http"
	"cicerone/prefix"
)

// Codes of HTTP's replies.
const (
	codeOK  = 200
	codeBad = 400
)

// frames is a stream of frames with their length ahead.
type frames struct {
	reader *prefix.Reader
}

func (f frames) feed(b []byte) []api.Frame {
	var l []api.Frame
	for _, body := range f.reader.Feed(b) {
		l = append(l, api.Frame{Body: body})
	}
	return l
}

func (f frames) reply(body []byte) ([]byte, bool, api.Errno) {
	b, e := prefix.Encode(body)
	return b, false, e
}

func (f frames) refuse() []byte { return nil }

// requests is a stream of HTTP's requests.
type requests struct {
	reader *http.Reader
	// waiting is how many have no reply yet. Behind one that is not kept none comes, so that one is the last of them, if there is one: closes tells.
	waiting int
	closes  bool
}

func (q *requests) feed(b []byte) []api.Frame {
	came, e := q.reader.Feed(b)
	var l []api.Frame
	for _, r := range came {
		l = append(l, api.Frame{Body: r.Body})
		q.waiting++
		q.closes = !r.Keep
	}
	if e != api.OK {
		l = append(l, api.Frame{Bad: true})
	}
	return l
}

func (q *requests) reply(body []byte) ([]byte, bool, api.Errno) {
	last := q.closes && q.waiting == 1
	b, e := http.Reply(codeOK, body, !last)
	if e != api.OK {
		return nil, false, e
	}
	q.waiting = max(q.waiting-1, 0)
	return b, last, api.OK
}

func (q *requests) refuse() []byte {
	b, _ := http.Reply(codeBad, nil, false)
	return b
}

// over is a stream at its end, of whichever kind it was.
type over struct{}

func (over) feed([]byte) []api.Frame { return nil }

func (over) reply([]byte) ([]byte, bool, api.Errno) { return nil, false, api.ErrArg }

func (over) refuse() []byte { return nil }
