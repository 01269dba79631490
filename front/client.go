package front

import (
	"cicerone/api"
	"cicerone/stream"
)

// client is a client's stream, and what is to go out on it.
type client struct {
	*stream.Stream
	outbox
	line
	number int
}

// newClient is one of a kind of streams.
func newClient(kind int) (*client, api.Errno) {
	s, e := stream.New(kind)
	if e != api.OK {
		return nil, e
	}
	// A client by HTTP tells replies apart by their order alone.
	return &client{Stream: s, line: line{inOrder: kind == api.StreamHTTP}}, api.OK
}

// reply notes the reply to a body, and sends what may go out now.
func (c *client) reply(p *place, body []byte) {
	for _, b := range c.ready(p, body) {
		// A message's bytes are never too many, so no bytes come of this at the stream's end alone: there a reply is lost.
		out, _ := c.Reply(b)
		c.add(out)
	}
}

// dismiss ends the stream: no reply goes out on it any more.
func (c *client) dismiss() {
	c.add(c.Refuse())
	c.places = nil
}

// outbox is bytes for a client that were not taken yet.
type outbox struct {
	bytes []byte
}

// add has bytes wait behind the others.
func (o *outbox) add(b []byte) { o.bytes = append(o.bytes, b...) }

// takeAll takes out all that waits, and its memory with it.
func (o *outbox) takeAll() []byte {
	b := o.bytes
	o.bytes = nil
	return b
}

// line is where bodies stand, in the order in which they came, till the replies to them go out; it stays empty, where replies go out at once.
type line struct {
	inOrder bool
	places  []*place
}

// place is a body's, with the reply to it, if that is there already.
type place struct {
	isReady bool
	reply   []byte
}

// join is a place for the next body.
func (l *line) join() *place {
	p := &place{}
	if l.inOrder {
		l.places = append(l.places, p)
	}
	return p
}

// ready notes the reply to a body: the replies that go out now.
func (l *line) ready(p *place, reply []byte) [][]byte {
	if !l.inOrder {
		return [][]byte{reply}
	}
	p.isReady, p.reply = true, reply
	var out [][]byte
	for len(l.places) > 0 && l.places[0].isReady {
		out = append(out, l.places[0].reply)
		// What is gone isn't kept by the list that goes on behind it.
		l.places[0] = nil
		l.places = l.places[1:]
	}
	return out
}
