package rrset_test

import (
	"encoding/binary"
	"fmt"
	"math"
	"slices"
	"strings"
	"testing"

	"cicerone/api"
)

// Names, and bytes that are none.
const (
	root    = "\x00"
	example = "\x07example\x00"
	www     = "\x03www\x07example\x00"
	great   = "\x03WWW\x07eXAMPLE\x00"
	noName  = "\x03www"
)

// day is MaxTTL, last the latest time that there is.
const (
	day  = 86400
	last = 1<<40 - day
)

// rr is a record of TypeA.
func rr(name string, ttl int, last byte) api.RR {
	return api.RR{Name: name, Type: api.TypeA, Class: api.ClassIN, TTL: ttl, Data: []byte{192, 0, 2, last}}
}

// with is a thing, changed.
func with[T any](x T, change func(x *T)) T {
	change(&x)
	return x
}

// soa is the data of a zone's SOA, by the bytes.
func soa(minimum uint32) []byte {
	b := []byte(www + root)
	for _, n := range []uint32{7, 600, 60, 9000, minimum} {
		b = binary.BigEndian.AppendUint32(b, n)
	}
	return b
}

// zone is a zone's SOA record.
func zone(ttl int, minimum uint32) api.RR {
	return api.RR{Name: example, Type: api.TypeSOA, Class: api.ClassIN, TTL: ttl, Data: soa(minimum)}
}

// told is all of a thing: sets, records or data, as a text. Nil and empty lists, and data, are told alike.
func told(x any) string {
	text := ""
	switch x := x.(type) {
	case [][]byte:
		for _, b := range x {
			text += fmt.Sprintf(" %x,", b)
		}
	case []api.RR:
		for _, r := range x {
			text += fmt.Sprintf("\n%q type %d class %d ttl %d: %x", r.Name, r.Type, r.Class, r.TTL, r.Data)
		}
	case []api.Set:
		for _, s := range x {
			text += fmt.Sprintf("\n%q type %d class %d rank %d kind %d expires %d zone %q:%s", s.Name, s.Type, s.Class, s.Rank, s.Kind, s.Expires, s.Zone, told(s.Datas))
		}
	case api.Set:
		return told([]api.Set{x})
	}
	return text
}

// is asks that one thing is told like another one.
func is[T any](t *testing.T, got, want T) {
	t.Helper()
	if told(got) != told(want) {
		t.Errorf("the answer is%s\nnot%s", told(got), told(want))
	}
}

// times is some times, each with that as which it counts.
func times() map[int]int {
	return map[int]int{
		math.MinInt: 0, -1: 0, 0: 0, 1: 1, 100: 100,
		last - 1: last - 1, last: last, last + 1: last, 1 << 40: last, 1<<40 + 1: last, math.MaxInt: last,
	}
}

// ttls is some TTLs, each with that as which it counts.
func ttls() map[int]int {
	return map[int]int{
		math.MinInt: 0, -1 << 31: 0, -1: 0, 0: 0, 1: 1, 5: 5, day - 1: day - 1, day: day, day + 1: day,
		1<<31 - 1: day, 1 << 31: 0, 1<<31 + 1: 0, 1<<32 - 1: 0, 1 << 32: 0, math.MaxInt: 0,
	}
}

// datas is data, each with room behind it.
func datas(l ...string) [][]byte {
	var all [][]byte
	for _, s := range l {
		all = append(all, append([]byte(s), "room"...)[:len(s)])
	}
	return all
}

// whole is all bytes of data, their rooms' too.
func whole(l [][]byte) string {
	text := ""
	for _, b := range l[:cap(l)] {
		text += fmt.Sprintf("%q", b[:cap(b)])
	}
	return text
}

// spoil changes each byte of data, and of their rooms.
func spoil(l [][]byte) {
	for _, b := range l {
		b = b[:cap(b)]
		for i := range b {
			b[i] ^= 0x55
		}
	}
}

// apart asks that no two of the lists share a byte: each is spoiled, and the others stay.
func apart(t *testing.T, l ...[]byte) {
	t.Helper()
	for i := range l {
		was := make([]string, len(l))
		for j := range l {
			was[j] = string(l[j][:cap(l[j])])
		}
		spoil(l[i : i+1])
		for j := range l {
			if j != i && string(l[j][:cap(l[j])]) != was[j] {
				t.Errorf("data %d and %d share bytes", i, j)
			}
		}
		spoil(l[i : i+1])
	}
}

// lower is a name in small letters.
func lower(n string) string {
	return strings.Map(func(r rune) rune {
		if r >= 'A' && r <= 'Z' {
			return r + 'a' - 'A'
		}
		return r
	}, n)
}

// ordered is data in order, each once, by way of texts.
func ordered(l [][]byte) [][]byte {
	var texts []string
	for _, b := range l {
		if !slices.Contains(texts, string(b)) {
			texts = append(texts, string(b))
		}
	}
	slices.Sort(texts)
	return datas(texts...)
}
