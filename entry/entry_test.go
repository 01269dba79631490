package entry_test

import (
	"bytes"
	"math"
	"strings"
	"testing"

	"cicerone/api"
	"cicerone/entry"
)

// with is a set that was changed.
func with(s api.Set, change func(s *api.Set)) api.Set {
	change(&s)
	return s
}

// kinds is a set of each kind that can be kept.
func kinds() []api.Set { return []api.Set{data(), none(), nothing()} }

// The chapter's example, and others reckoned by hand.
func TestBytes(t *testing.T) {
	for _, one := range []struct {
		e    api.Entry
		want string
	}{
		{api.Entry{Delete: true, Set: api.Set{Name: root, Type: 2, Class: 1}}, "\x01\x01\x00\x00\x02\x00\x01"},
		{api.Entry{Delete: true, Set: api.Set{Name: "\x01A\x00", Type: 0xabcd, Class: 0x1234}}, "\x01\x03\x01A\x00\xab\xcd\x12\x34"},
		{api.Entry{Set: api.Set{Name: "\x01a\x00", Type: 1, Class: 0x102, Rank: 3, Expires: 0x123456789a, Datas: [][]byte{{9, 8, 7, 6}, {5, 4, 3, 2}}}},
			"\x00\x03\x01a\x00\x00\x01\x01\x02\x03\x00\x00\x00\x00\x12\x34\x56\x78\x9a\x00\x00\x02\x00\x04\x09\x08\x07\x06\x00\x04\x05\x04\x03\x02"},
		{api.Entry{Set: api.Set{Name: root, Class: 255, Rank: 1, Kind: 2, Expires: 1 << 40, Zone: "\x01b\x00", Datas: [][]byte{soa}}},
			"\x00\x01\x00\x00\x00\x00\xff\x01\x02\x00\x00\x01\x00\x00\x00\x00\x00\x03\x01b\x00\x00\x01\x00\x1a" + string(soa)},
		{api.Entry{Set: api.Set{Name: root, Type: 999, Rank: 2, Kind: 0, Datas: [][]byte{nil}}},
			"\x00\x01\x00\x03\xe7\x00\x00\x02\x00\x00\x00\x00\x00\x00\x00\x00\x00\x00\x00\x01\x00\x00"},
	} {
		b, e := entry.Encode(one.e)
		if e != api.OK || string(b) != one.want {
			t.Errorf("Encode of %s is %x, %d, not %x", short(one.e), b, e, one.want)
		}
		can(t, one.e)
	}
}

// P8.1: names and zones, of puts and of deletes.
func TestNames(t *testing.T) {
	good := []string{root, "\x01a\x00", example, longest, "\x3f" + strings.Repeat("\xff", 63) + "\x00", "\x04\x00\x01.\\\x00"}
	wrong := []string{"", "a", "\x01a", "\x01", "\x00\x00", "\x01a\x00\x00", "\x00\x01a\x00", longer, "\x40" + strings.Repeat("a", 64) + "\x00", "\xc0\x0c", "www.example.", strings.Repeat("\x01a", 200) + "\x00", strings.Repeat("x", 70000)}
	for _, s := range kinds() {
		for _, n := range good {
			can(t, api.Entry{Set: with(s, func(s *api.Set) { s.Name = n })})
			can(t, api.Entry{Delete: true, Set: api.Set{Name: n, Type: s.Type, Class: 1}})
		}
		for _, n := range wrong {
			cannot(t, api.Entry{Set: with(s, func(s *api.Set) { s.Name = n })})
			cannot(t, api.Entry{Delete: true, Set: api.Set{Name: n, Type: s.Type, Class: 1}})
		}
		for _, z := range good {
			e := api.Entry{Set: with(s, func(s *api.Set) { s.Zone = z })}
			if s.Kind == api.SetData {
				cannot(t, e)
			} else {
				can(t, e)
			}
		}
		for _, z := range wrong {
			e := api.Entry{Set: with(s, func(s *api.Set) { s.Zone = z })}
			if s.Kind == api.SetData && z == "" {
				can(t, e)
			} else {
				cannot(t, e)
			}
		}
	}
}

// P8.1: numbers at their ends, and one beyond.
func TestNumbers(t *testing.T) {
	far := []int{math.MinInt, math.MinInt32, -65536, -256, -1, 1 << 16, 1<<16 + 1, 1 << 31, 1 << 32, 1<<32 + 1, math.MaxInt}
	for _, s := range kinds() {
		try := func(ok bool, change func(s *api.Set)) {
			t.Helper()
			if e := (api.Entry{Set: with(s, change)}); ok {
				can(t, e)
			} else {
				cannot(t, e)
			}
		}
		for _, n := range []int{0, 1, 255, 256, 65534, 65535} {
			try(true, func(s *api.Set) { s.Class = n })
			can(t, api.Entry{Delete: true, Set: api.Set{Name: example, Type: n, Class: 7}})
			can(t, api.Entry{Delete: true, Set: api.Set{Name: example, Type: 7, Class: n}})
		}
		for _, n := range far {
			try(false, func(s *api.Set) { s.Class = n })
			try(false, func(s *api.Set) { s.Type = n })
			try(false, func(s *api.Set) { s.Rank = n })
			try(false, func(s *api.Set) { s.Kind = n })
			cannot(t, api.Entry{Delete: true, Set: api.Set{Name: example, Type: n, Class: 7}})
			cannot(t, api.Entry{Delete: true, Set: api.Set{Name: example, Type: 7, Class: n}})
		}
		for n := range 10 {
			try(n >= 1 && n <= 3, func(s *api.Set) { s.Rank = n })
			if n > 2 {
				try(false, func(s *api.Set) { s.Kind = n })
			}
		}
		for _, n := range []int{255, 256, 257, 258, 259} {
			try(false, func(s *api.Set) { s.Rank = n })
			try(false, func(s *api.Set) { s.Kind = n })
		}
		for _, n := range []int{0, 1, 255, 256, 1<<32 - 1, 1 << 32, 1<<40 - 1, 1 << 40} {
			try(true, func(s *api.Set) { s.Expires = n })
		}
		for _, n := range []int{1<<40 + 1, 1 << 41, 1<<62 + 5, math.MaxInt, -1, -300, math.MinInt, math.MinInt + 1} {
			try(false, func(s *api.Set) { s.Expires = n })
		}
	}
}

// P8.1: each kind with types that it may have, and that it may not.
func TestKinds(t *testing.T) {
	good := map[int][]byte{
		api.TypeA: {1, 2, 3, 4}, api.TypeNS: []byte(zone), api.TypeCNAME: []byte(zone), api.TypeSOA: soa, api.TypePTR: []byte(root), api.TypeMX: []byte("\x00\x05" + zone),
		api.TypeTXT: {0}, api.TypeAAAA: make([]byte, 16), api.TypeOPT: {}, 3: {}, 99: {1}, 255: nil, 256: {}, 65534: soa, 65535: {1, 2},
	}
	for n, b := range good {
		s := with(data(), func(s *api.Set) { s.Type, s.Datas = n, [][]byte{b} })
		can(t, api.Entry{Set: s})
		can(t, api.Entry{Set: with(s, func(s *api.Set) { s.Datas = [][]byte{b, b, b} })})
		can(t, api.Entry{Set: with(none(), func(s *api.Set) { s.Type = n })})
		cannot(t, api.Entry{Set: with(none(), func(s *api.Set) { s.Kind, s.Type = api.SetNothing, n })})
		cannot(t, api.Entry{Set: with(s, func(s *api.Set) { s.Kind = api.SetNone })})
		cannot(t, api.Entry{Set: with(s, func(s *api.Set) { s.Kind = api.SetNothing })})
		if n != api.TypeSOA && n < 65534 {
			cannot(t, api.Entry{Set: with(s, func(s *api.Set) { s.Kind, s.Zone = api.SetNone, zone })})
		}
	}
	can(t, api.Entry{Set: nothing()})
	cannot(t, api.Entry{Set: with(none(), func(s *api.Set) { s.Type = 0 })})
	cannot(t, api.Entry{Set: with(nothing(), func(s *api.Set) { s.Kind = api.SetNone })})
	cannot(t, api.Entry{Set: with(nothing(), func(s *api.Set) { s.Type = 1 })})
	cannot(t, api.Entry{Set: with(data(), func(s *api.Set) { s.Type = 0 })})
	cannot(t, api.Entry{Set: with(data(), func(s *api.Set) { s.Type, s.Datas = 0, [][]byte{{}} })})
	cannot(t, api.Entry{Set: with(data(), func(s *api.Set) { s.Zone = root })})
	cannot(t, api.Entry{})
	if entry.Can(api.Set{}) {
		t.Error("a set of zeros can be kept")
	}
}

// P8.1: no data, one and two; data that are none of their type, wherever they stand.
func TestDatas(t *testing.T) {
	for _, s := range kinds() {
		for _, l := range [][][]byte{nil, {}, make([][]byte, 0, 5)} {
			cannot(t, api.Entry{Set: with(s, func(s *api.Set) { s.Datas = l })})
		}
		one := s.Datas[0]
		can(t, api.Entry{Set: with(s, func(s *api.Set) { s.Datas = [][]byte{one} })})
		if s.Kind == api.SetData {
			can(t, api.Entry{Set: with(s, func(s *api.Set) { s.Datas = [][]byte{one, one} })})
		} else {
			cannot(t, api.Entry{Set: with(s, func(s *api.Set) { s.Datas = [][]byte{one, one} })})
			cannot(t, api.Entry{Set: with(s, func(s *api.Set) { s.Datas = [][]byte{one, nil} })})
		}
		for _, bad := range [][]byte{nil, {}, {1}, {1, 2, 3}, {1, 2, 3, 4, 5}, soa[:len(soa)-1], append(bytes.Clone(soa), 0), make([]byte, 65536)} {
			cannot(t, api.Entry{Set: with(s, func(s *api.Set) { s.Datas = [][]byte{bad} })})
			cannot(t, api.Entry{Set: with(s, func(s *api.Set) { s.Datas = [][]byte{one, bad} })})
			cannot(t, api.Entry{Set: with(s, func(s *api.Set) { s.Datas = [][]byte{bad, one} })})
			cannot(t, api.Entry{Set: with(s, func(s *api.Set) { s.Datas = [][]byte{one, one, bad} })})
		}
	}
	wrong := map[int][]string{
		api.TypeA: {"", "123"}, api.TypeNS: {"", "a", root + root}, api.TypeCNAME: {"", "\x01a"}, api.TypeSOA: {"", root, root + root}, api.TypePTR: {longer}, api.TypeMX: {"", "\x00", "\x00\x01"},
		api.TypeTXT: {"", "\x01"}, api.TypeAAAA: {"", "1234"}, api.TypeOPT: {"\x00", "\x00\x01\x00\x01"},
	}
	for n, l := range wrong {
		for _, bad := range l {
			cannot(t, api.Entry{Set: with(data(), func(s *api.Set) { s.Type, s.Datas = n, [][]byte{[]byte(bad)} })})
		}
	}
}

// sized is a set of so many bytes: of data of a type that may be anything, or of texts.
func sized(size int) api.Set {
	s := with(data(), func(s *api.Set) { s.Type, s.Datas = 777, nil })
	left := size - len(written(api.Entry{Set: s}))
	s.Datas = [][]byte{make([]byte, left-2)}
	return s
}

// P8.1: an entry has at most MaxRecord bytes.
func TestSizes(t *testing.T) {
	for _, size := range []int{100, 3999, 4000} {
		s := sized(size)
		if b, e := entry.Encode(api.Entry{Set: s}); len(b) != size || e != api.OK {
			t.Errorf("Encode is %d bytes, %d, not %d", len(b), e, size)
		}
		can(t, api.Entry{Set: s})
	}
	for _, size := range []int{4001, 4002, 4040, 8000, 60000, 65560} {
		cannot(t, api.Entry{Set: sized(size)})
	}

	// Many data, none of them great: each has its length ahead, too.
	s := with(data(), func(s *api.Set) { s.Name, s.Type, s.Datas = root, 777, make([][]byte, 1990) })
	if n := len(written(api.Entry{Set: s})); n != 4000 {
		t.Fatalf("%d bytes", n)
	}
	can(t, api.Entry{Set: s})
	cannot(t, api.Entry{Set: with(s, func(s *api.Set) { s.Name = "\x01a\x00" })})
	cannot(t, api.Entry{Set: with(s, func(s *api.Set) { s.Datas = append(s.Datas, nil) })})
	cannot(t, api.Entry{Set: with(s, func(s *api.Set) { s.Datas[1989] = []byte{1} })})
	for _, n := range []int{65535, 65536, 65536 + 2, 1 << 20} {
		cannot(t, api.Entry{Set: with(s, func(s *api.Set) { s.Datas = make([][]byte, n) })})
	}
	great := make([]byte, 65535)
	cannot(t, api.Entry{Set: with(s, func(s *api.Set) { s.Datas = [][]byte{great} })})
	many := make([][]byte, 1<<16)
	for i := range many {
		many[i] = great
	}
	cannot(t, api.Entry{Set: with(s, func(s *api.Set) { s.Datas = many })})

	// An SOA and a zone of the greatest names.
	most := []byte(longest + longest + strings.Repeat("\x00", 20))
	for _, s := range []api.Set{none(), nothing()} {
		can(t, api.Entry{Set: with(s, func(s *api.Set) { s.Name, s.Zone, s.Datas = longest, longest, [][]byte{most} })})
	}
}

// P8.1: an entry that deletes has name, type and class alone.
func TestDeletes(t *testing.T) {
	key := api.Set{Name: example, Type: 5, Class: 6}
	can(t, api.Entry{Delete: true, Set: key})
	can(t, api.Entry{Delete: true, Set: with(key, func(s *api.Set) { s.Datas = [][]byte{} })})
	can(t, api.Entry{Delete: true, Set: with(key, func(s *api.Set) { s.Type, s.Class = 0, 0 })})
	cannot(t, api.Entry{Set: key})
	cannot(t, api.Entry{Delete: true})
	for _, n := range []int{-1, 1, 2, 3, 256, math.MaxInt, math.MinInt} {
		cannot(t, api.Entry{Delete: true, Set: with(key, func(s *api.Set) { s.Rank = n })})
		cannot(t, api.Entry{Delete: true, Set: with(key, func(s *api.Set) { s.Kind = n })})
		cannot(t, api.Entry{Delete: true, Set: with(key, func(s *api.Set) { s.Expires = n })})
	}
	for _, z := range []string{root, zone, "x"} {
		cannot(t, api.Entry{Delete: true, Set: with(key, func(s *api.Set) { s.Zone = z })})
	}
	for _, l := range [][][]byte{{nil}, {{}}, {{1, 2, 3, 4}}, {nil, nil}, make([][]byte, 65536)} {
		cannot(t, api.Entry{Delete: true, Set: with(key, func(s *api.Set) { s.Datas = l })})
	}
	for _, s := range kinds() {
		cannot(t, api.Entry{Delete: true, Set: s})
	}
}

// P8.1: the same in all fields, byte by byte, whether they can be kept or not.
func TestSame(t *testing.T) {
	changes := map[string]func(s *api.Set){
		"Name":       func(s *api.Set) { s.Name = zone },
		"its case":   func(s *api.Set) { s.Name = strings.ToLower(s.Name) },
		"no Name":    func(s *api.Set) { s.Name = "" },
		"Type":       func(s *api.Set) { s.Type += 1 << 16 },
		"Class":      func(s *api.Set) { s.Class = -s.Class },
		"Rank":       func(s *api.Set) { s.Rank++ },
		"Kind":       func(s *api.Set) { s.Kind++ },
		"Expires":    func(s *api.Set) { s.Expires += 1 << 32 },
		"Zone":       func(s *api.Set) { s.Zone += "x" },
		"its case, ": func(s *api.Set) { s.Zone = "E" + s.Zone },
		"no data":    func(s *api.Set) { s.Datas = nil },
		"more data":  func(s *api.Set) { s.Datas = append(s.Datas[:len(s.Datas):len(s.Datas)], nil) },
		"less data":  func(s *api.Set) { s.Datas = s.Datas[:len(s.Datas)-1] },
		"other data": func(s *api.Set) { s.Datas = append([][]byte{{9}}, s.Datas[1:]...) },
		"last data": func(s *api.Set) {
			s.Datas = append(s.Datas[:len(s.Datas)-1:len(s.Datas)-1], append(bytes.Clone(s.Datas[len(s.Datas)-1]), 0))
		},
	}
	for _, s := range append(kinds(), api.Set{Name: "X", Type: -1, Class: 1 << 40, Rank: 9, Kind: 9, Expires: -5, Zone: "\xff", Datas: [][]byte{{1}, nil, {2, 3}}}) {
		if !entry.Same(s, plain(api.Entry{Set: s}).Set) {
			t.Errorf("%s is not the same as itself", short(api.Entry{Set: s}))
		}
		for what, change := range changes {
			other := with(s, change)
			if entry.Same(s, other) || entry.Same(other, s) || !entry.Same(other, other) {
				t.Errorf("with %s changed %s is the same", what, short(api.Entry{Set: s}))
			}
		}
	}
	two := with(data(), func(s *api.Set) { s.Datas = [][]byte{s.Datas[1], s.Datas[0]} })
	if entry.Same(data(), two) {
		t.Error("data in another order are the same")
	}
	joined := with(data(), func(s *api.Set) { s.Datas = [][]byte{{1, 2, 3, 4, 5}, {6, 7, 8}} })
	if entry.Same(data(), joined) {
		t.Error("data that are parted elsewhere are the same")
	}
}

// P8.1: nil and empty lists are the same.
func TestSameEmpty(t *testing.T) {
	if !entry.Same(api.Set{}, api.Set{}) {
		t.Error("sets of zeros are not the same")
	}
	lists := [][][]byte{nil, {}, make([][]byte, 0, 4)}
	ones := [][][]byte{{nil}, {{}}, {make([]byte, 0, 4)}}
	for i, a := range lists {
		for j, b := range lists {
			if !entry.Same(api.Set{Datas: a}, api.Set{Datas: b}) {
				t.Errorf("no data, %d and %d, are not the same", i, j)
			}
		}
		for _, b := range ones {
			if entry.Same(api.Set{Datas: a}, api.Set{Datas: b}) || entry.Same(api.Set{Datas: b}, api.Set{Datas: a}) {
				t.Errorf("no data, %d, are the same as empty ones", i)
			}
		}
	}
	for i, a := range ones {
		for j, b := range ones {
			if !entry.Same(api.Set{Datas: a}, api.Set{Datas: b}) {
				t.Errorf("empty data, %d and %d, are not the same", i, j)
			}
		}
	}
}
