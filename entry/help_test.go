package entry_test

import (
	"bytes"
	"encoding/binary"
	"fmt"
	"reflect"
	"strings"
	"testing"

	"cicerone/api"
	"cicerone/entry"
)

// Names as on the wire.
const (
	root    = "\x00"
	example = "\x03www\x07Example\x00"
	zone    = "\x07example\x00"
)

// longest is a name of as many bytes as one may have, longer one of a byte more.
var (
	longest = strings.Repeat("\x3f"+strings.Repeat("a", 63), 3) + "\x3d" + strings.Repeat("b", 61) + "\x00"
	longer  = strings.Repeat("\x3f"+strings.Repeat("a", 63), 3) + "\x3e" + strings.Repeat("b", 62) + "\x00"
)

// soa is data of an SOA.
var soa = []byte("\x01m\x00" + "\x01r\x00" + "\x00\x00\x00\x01" + "\x00\x00\x00\x02" + "\x00\x00\x00\x03" + "\x00\x00\x00\x04" + "\x00\x00\x00\x05")

// data, none and nothing are a set of each kind that can be kept.
func data() api.Set {
	return api.Set{Name: example, Type: api.TypeA, Class: api.ClassIN, Rank: api.RankAnswer, Expires: 300, Datas: [][]byte{{1, 2, 3, 4}, {5, 6, 7, 8}}}
}

func none() api.Set {
	return api.Set{Name: example, Type: api.TypeAAAA, Class: api.ClassIN, Rank: api.RankAnswer, Kind: api.SetNone, Expires: 300, Zone: zone, Datas: [][]byte{soa}}
}

func nothing() api.Set {
	return api.Set{Name: example, Class: api.ClassIN, Rank: api.RankRefer, Kind: api.SetNothing, Expires: 300, Zone: zone, Datas: [][]byte{soa}}
}

// written is an entry's bytes, by the chapter's words.
func written(e api.Entry) []byte {
	var b bytes.Buffer
	put := func(values ...any) {
		for _, v := range values {
			binary.Write(&b, binary.BigEndian, v)
		}
	}
	s := e.Set
	put(e.Delete, uint8(len(s.Name)), []byte(s.Name), uint16(s.Type), uint16(s.Class))
	if !e.Delete {
		put(uint8(s.Rank), uint8(s.Kind), uint64(s.Expires), uint8(len(s.Zone)), []byte(s.Zone), uint16(len(s.Datas)))
		for _, data := range s.Datas {
			put(uint16(len(data)), data)
		}
	}
	return b.Bytes()
}

// short is an entry in few words.
func short(e api.Entry) string {
	s := fmt.Sprintf("%.300q", fmt.Sprintf("%+v", e))
	return s
}

// same tells whether two entries are the same in all fields; nil and empty lists are.
func same(a, b api.Entry) bool {
	return reflect.DeepEqual(plain(a), plain(b))
}

// plain is an entry whose lists are not nil.
func plain(e api.Entry) api.Entry {
	l := [][]byte{}
	for _, data := range e.Set.Datas {
		l = append(l, append([]byte{}, data...))
	}
	e.Set.Datas = l
	return e
}

// can asks that an entry can be: that its bytes are those of the chapter, and that these are it.
func can(t *testing.T, e api.Entry) {
	t.Helper()
	if !e.Delete && !entry.Can(e.Set) {
		t.Errorf("Can is false of %s", short(e))
	}
	was := plain(e)
	b, err := entry.Encode(e)
	if err != api.OK || !bytes.Equal(b, written(e)) {
		t.Errorf("Encode of %s is %.300x, %d, not %.300x", short(e), b, err, written(e))
	}
	got, err := entry.Decode(written(e))
	if err != api.OK || !same(got, e) || !entry.Same(got.Set, e.Set) {
		t.Errorf("Decode is %s, %d, not %s", short(got), err, short(e))
	}
	if !same(e, was) {
		t.Errorf("%s was changed to %s", short(was), short(e))
	}
}

// cannot asks that an entry can't be, and that its bytes, where it has some, are none of an entry.
func cannot(t *testing.T, e api.Entry) {
	t.Helper()
	if !e.Delete && entry.Can(e.Set) {
		t.Errorf("Can is true of %s", short(e))
	}
	if b, err := entry.Encode(e); err != api.ErrArg || len(b) != 0 {
		t.Errorf("Encode of %s is %.300x, %d", short(e), b, err)
	}
	if hasBytes(e) {
		no(t, written(e))
	}
}

// hasBytes tells whether an entry's bytes would say just it: all its numbers fit.
func hasBytes(e api.Entry) bool {
	s := e.Set
	fit := func(n, most int) bool { return n >= 0 && n <= most }
	if e.Delete {
		key := api.Set{Name: s.Name, Type: s.Type, Class: s.Class}
		return fit(len(s.Name), 255) && fit(s.Type, 65535) && fit(s.Class, 65535) && same(api.Entry{Set: s}, api.Entry{Set: key})
	}
	for _, data := range s.Datas {
		if !fit(len(data), 65535) {
			return false
		}
	}
	return fit(len(s.Name), 255) && fit(s.Type, 65535) && fit(s.Class, 65535) && fit(s.Rank, 255) && fit(s.Kind, 255) && fit(len(s.Zone), 255) && fit(len(s.Datas), 65535)
}

// no asks that bytes are no entry.
func no(t *testing.T, b []byte) {
	t.Helper()
	if e, err := entry.Decode(b); err != api.ErrEntry || !same(e, api.Entry{}) {
		t.Errorf("Decode of %.300x is %s, %d", b, short(e), err)
	}
}
