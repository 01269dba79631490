package wire

import (
	"cicerone/api"
	"cicerone/header"
	"cicerone/rdata"
)

// root is the name without labels: it is as short as it can be, so no pointer stands for it.
const root = "\x00"

// writer has a message's bytes so far, and for each name that was written the first place at which it begins, where a pointer can lead there. Whatever is left of a name behind some of its labels is a name, too.
type writer struct {
	b      []byte
	places map[string]int
}

// Encode is a message's bytes.
func Encode(m api.Message) ([]byte, api.Errno) {
	if !Can(m) {
		return nil, api.ErrArg
	}
	head, _ := header.Encode(m.Header, counts(m))
	w := writer{b: head, places: map[string]int{}}
	for _, q := range m.Questions {
		w.question(q)
		if w.long() {
			return nil, api.ErrLong
		}
	}
	for _, l := range sections(m) {
		for _, r := range l {
			w.record(r)
			if w.long() {
				return nil, api.ErrLong
			}
		}
	}
	return w.b, api.OK
}

// long tells whether the bytes are too many already; it is asked part by part, so that no more is written than one part beyond the limit.
func (w *writer) long() bool { return len(w.b) > api.MaxMessage }

func (w *writer) question(q api.Question) {
	w.name(q.Name)
	w.two(q.Type)
	w.two(q.Class)
}

func (w *writer) record(r api.RR) {
	w.name(r.Name)
	w.two(r.Type)
	w.two(r.Class)
	w.two(r.TTL >> 16)
	w.two(r.TTL)
	w.data(r.Type, r.Data)
}

// data writes data, with their length ahead. As written they are never longer than before, since a pointer is no longer than what it stands for: so their length fits in its two bytes.
func (w *writer) data(t int, data []byte) {
	at := len(w.b)
	w.two(0)
	begin := len(w.b)
	done, _ := names(t)
	w.b = append(w.b, data[:done]...)
	for _, n := range rdata.Names(t, data) {
		w.name(n)
		done += len(n)
	}
	w.b = append(w.b, data[done:]...)
	size := len(w.b) - begin
	w.b[at], w.b[at+1] = byte(size>>8), byte(size)
}

// name writes a name, label by label, up to where it was written ahead.
func (w *writer) name(n string) {
	for n != root {
		if place, ok := w.places[n]; ok {
			w.two(pointerBits | place)
			return
		}
		if len(w.b) < placesEnd {
			w.places[n] = len(w.b)
		}
		size := 1 + int(n[0])
		w.b = append(w.b, n[:size]...)
		n = n[size:]
	}
	w.b = append(w.b, root...)
}

// two writes the lower two bytes of a number, the highest first.
func (w *writer) two(n int) {
	w.b = append(w.b, byte(n>>8), byte(n))
}
