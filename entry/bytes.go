package entry

import (
	"bytes"

	"cicerone/api"
)

// What an entry does.
const (
	puts    = 0
	deletes = 1
)

// How many bytes an entry's numbers have: what it does, its rank, its kind and the lengths of names; types, classes, the count of data and their lengths; times. The fixed ones are those that each entry has that puts: five small numbers, three of two bytes, one time.
const (
	smallBytes = 1
	countBytes = 2
	timeBytes  = 8
	fixedBytes = 5*smallBytes + 3*countBytes + timeBytes
)

// Encode is an entry's bytes.
func Encode(e api.Entry) ([]byte, api.Errno) {
	if !can(e) {
		return nil, api.ErrArg
	}
	does, s := puts, e.Set
	if e.Delete {
		does = deletes
	}
	b := numbers(nil, smallBytes, does)
	b = parts(b, smallBytes, []byte(s.Name))
	b = numbers(b, countBytes, s.Type, s.Class)
	if e.Delete {
		return b, api.OK
	}
	b = numbers(b, smallBytes, s.Rank, s.Kind)
	b = numbers(b, timeBytes, s.Expires)
	b = parts(b, smallBytes, []byte(s.Zone))
	b = numbers(b, countBytes, len(s.Datas))
	return parts(b, countBytes, s.Datas...), api.OK
}

// numbers writes numbers behind what there is, each in so many bytes, the highest first.
func numbers(b []byte, width int, l ...int) []byte {
	for _, n := range l {
		for shift := 8 * (width - 1); shift >= 0; shift -= 8 {
			b = append(b, byte(n>>shift))
		}
	}
	return b
}

// parts writes parts behind what there is, each with its length ahead in so many bytes.
func parts(b []byte, width int, l ...[]byte) []byte {
	for _, part := range l {
		b = numbers(b, width, len(part))
		b = append(b, part...)
	}
	return b
}

// Decode is the entry of bytes.
func Decode(b []byte) (api.Entry, api.Errno) {
	r := reader{left: b}
	does := r.number(smallBytes)
	e := api.Entry{Delete: does == deletes}
	e.Set.Name = string(r.part(smallBytes))
	e.Set.Type = r.number(countBytes)
	e.Set.Class = r.number(countBytes)
	if !e.Delete {
		r.rest(&e.Set)
	}
	if does > deletes || r.short || len(r.left) > 0 || !can(e) {
		return api.Entry{}, api.ErrEntry
	}
	return e, api.OK
}

// reader has the bytes that are left, and whether there were too few.
type reader struct {
	left  []byte
	short bool
}

// rest is what stands behind the key of a set that is put.
func (r *reader) rest(s *api.Set) {
	s.Rank = r.number(smallBytes)
	s.Kind = r.number(smallBytes)
	s.Expires = r.number(timeBytes)
	s.Zone = string(r.part(smallBytes))
	for range r.number(countBytes) {
		if r.short {
			return
		}
		// A copy, as an answer is new memory.
		s.Datas = append(s.Datas, bytes.Clone(r.part(countBytes)))
	}
}

// take is the next so many bytes. Where there are fewer, none are left: so all that is read behind them is nothing.
func (r *reader) take(size int) []byte {
	if size > len(r.left) {
		r.left, r.short = nil, true
		return nil
	}
	taken := r.left[:size]
	r.left = r.left[size:]
	return taken
}

// number is the next number of so many bytes. A time whose highest bit is set comes out below 0, where no time is.
func (r *reader) number(width int) int {
	n := 0
	for _, x := range r.take(width) {
		n = n<<8 | int(x)
	}
	return n
}

// part is the next part, that has its length ahead in so many bytes.
func (r *reader) part(width int) []byte { return r.take(r.number(width)) }
