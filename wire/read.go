package wire

import (
	"bytes"

	"cicerone/api"
	"cicerone/header"
	"cicerone/rdata"
)

// headerBytes is how many bytes stand ahead of a message's parts.
const headerBytes = 12

// reader reads bytes from a place on. It gives up by a panic with an error's number, which message catches.
type reader struct {
	b     []byte
	at    int
	short api.Errno // the error where the bytes end too early
}

// Decode is the message of bytes.
func Decode(b []byte) (api.Message, api.Errno) {
	if len(b) > api.MaxMessage {
		return api.Message{}, api.ErrLong
	}
	h, counts, e := header.Decode(b)
	if e != api.OK {
		return api.Message{}, e
	}
	r := reader{b: b, at: headerBytes, short: api.ErrShort}
	return r.message(h, counts)
}

// message reads all parts behind the header.
func (r *reader) message(h api.Header, counts [4]int) (m api.Message, e api.Errno) {
	defer func() {
		why := recover()
		if why == nil {
			return
		}
		gaveUp, ok := why.(api.Errno)
		if !ok {
			// A fault of the program, not of the bytes: it is not to look like an answer.
			panic(why)
		}
		m, e = api.Message{}, gaveUp
	}()
	m.Header = h
	for range counts[0] {
		m.Questions = append(m.Questions, r.question())
	}
	m.Answers = r.records(counts[1])
	m.Authority = r.records(counts[2])
	m.Additional = r.records(counts[3])
	if r.at < len(r.b) {
		giveUp(api.ErrTrail)
	}
	return m, api.OK
}

// giveUp ends the reading, however deep within it.
func giveUp(e api.Errno) { panic(e) }

func (r *reader) question() api.Question {
	n := r.name()
	t := r.number(2)
	class := r.number(2)
	return api.Question{Name: n, Type: t, Class: class}
}

func (r *reader) records(count int) []api.RR {
	var l []api.RR
	for range count {
		l = append(l, r.record())
	}
	return l
}

func (r *reader) record() api.RR {
	n := r.name()
	t := r.number(2)
	class := r.number(2)
	ttl := r.number(4)
	size := r.number(2)
	return api.RR{Name: n, Type: t, Class: class, TTL: ttl, Data: r.data(t, size)}
}

// data reads data of a type, and replaces the pointers in them. Their names are read by a reader that knows nothing of what stands behind them, so that whatever of a name is not there, behind a pointer, too, is the data's fault.
func (r *reader) data(t, size int) []byte {
	from := r.at
	r.take(size)
	d := reader{b: r.b[:r.at], at: from, short: api.ErrData}
	ahead, count := names(t)
	data := bytes.Clone(d.take(ahead))
	for range count {
		data = append(data, d.name()...)
	}
	data = append(data, d.b[d.at:]...)
	if !rdata.Can(t, data) {
		giveUp(api.ErrData)
	}
	return data
}

// name reads a name, and goes behind the bytes that it has at its own place. Each pointer leads further back, so it ends.
func (r *reader) name() string {
	var n []byte
	behind := 0 // behind the name's first pointer, if it has one
follow:
	began := r.at
	for {
		size := r.number(1)
		if size >= pointerByte {
			place := (size-pointerByte)<<8 | r.number(1)
			if place >= began {
				giveUp(api.ErrPointer)
			}
			if behind == 0 {
				behind = r.at
			}
			r.at = place
			goto follow
		}
		if size > api.MaxLabel {
			giveUp(api.ErrLabel)
		}
		// The label is taken ahead of asking how long the name is: of one that is cut off that is told first.
		n = append(n, byte(size))
		n = append(n, r.take(size)...)
		if size == 0 {
			break
		}
		// The root's byte is still to come.
		if len(n)+len(root) > api.MaxName {
			giveUp(api.ErrName)
		}
	}
	if behind > 0 {
		r.at = behind
	}
	return string(n)
}

// number reads a number of so many bytes, the highest first.
func (r *reader) number(size int) int {
	n := 0
	for _, b := range r.take(size) {
		n = n<<8 | int(b)
	}
	return n
}

// take reads so many bytes.
func (r *reader) take(size int) []byte {
	if size > len(r.b)-r.at {
		giveUp(r.short)
	}
	from := r.at
	r.at += size
	return r.b[from:r.at]
}
