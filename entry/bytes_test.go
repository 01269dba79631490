package entry_test

import (
	"bytes"
	"fmt"
	"math/rand/v2"
	"testing"

	"cicerone/api"
	"cicerone/entry"
)

// entries are some that can be: of each kind, and deletes.
func entries() []api.Entry {
	var l []api.Entry
	for _, s := range kinds() {
		l = append(l, api.Entry{Set: s}, api.Entry{Delete: true, Set: api.Set{Name: s.Name, Type: s.Type, Class: s.Class}})
	}
	empty := with(data(), func(s *api.Set) { s.Type, s.Datas = 777, [][]byte{nil, {}, {1}} })
	return append(l, api.Entry{Set: empty}, api.Entry{Set: sized(4000)}, api.Entry{Delete: true, Set: api.Set{Name: root}})
}

// P8.1: each beginning of an entry's bytes is none, nor are these with more behind.
func TestDecodeCut(t *testing.T) {
	for _, e := range entries() {
		b := written(e)
		can(t, e)
		for i := range b {
			no(t, b[:i])
			no(t, bytes.Clone(b[:i]))
		}
		for _, more := range [][]byte{{0}, {1}, {0xff}, {0, 0}, b} {
			no(t, append(bytes.Clone(b), more...))
		}
		no(t, append([]byte{0}, b...))
		no(t, b[1:])
	}
}

// P8.1: bytes that are nothing, or much.
func TestDecodeWrong(t *testing.T) {
	for _, b := range [][]byte{nil, {}, {0}, {1}, {2}, {0xff}, make([]byte, 19), make([]byte, 4000), make([]byte, 4001), make([]byte, 1<<20), bytes.Repeat([]byte{0xff}, 1<<17)} {
		no(t, b)
	}
	put, drop := written(api.Entry{Set: data()}), written(api.Entry{Delete: true, Set: api.Set{Name: root}})
	for first := range 256 {
		for _, b := range [][]byte{put, drop} {
			other := bytes.Clone(b)
			other[0] = byte(first)
			if first != int(b[0]) {
				no(t, other)
			}
		}
	}
}

// P8.1: a time whose highest bits are set is none.
func TestDecodeTime(t *testing.T) {
	b := written(api.Entry{Set: with(data(), func(s *api.Set) { s.Expires = 0 })})
	at := 1 + 1 + len(example) + 4 + 2
	for bit := range 64 {
		for _, more := range []byte{0, 5} {
			other := bytes.Clone(b)
			other[at+7] |= more
			other[at+7-bit/8] |= 1 << (bit % 8)
			if time := 1<<bit | int(more); bit <= 40 && time <= 1<<40 {
				e, err := entry.Decode(other)
				if err != api.OK || e.Set.Expires != time {
					t.Errorf("with bit %d Decode is %s, %d", bit, short(e), err)
				}
			} else {
				no(t, other)
			}
		}
	}
}

// P8.1: counts and lengths that say more, or less, than there is.
func TestDecodeCounts(t *testing.T) {
	for _, e := range entries() {
		if e.Delete {
			continue
		}
		b := written(e)
		at := 1 + 1 + len(e.Set.Name) + 4 + 2 + 8 + 1 + len(e.Set.Zone)
		for _, count := range []int{0, 1, 2, 3, 4, 255, 256, 65535} {
			other := bytes.Clone(b)
			other[at], other[at+1] = byte(count>>8), byte(count)
			if count != len(e.Set.Datas) {
				no(t, other)
			}
		}
		for _, length := range []int{0, 1, 3, 5, 10, 4000, 65535} {
			other := bytes.Clone(b)
			other[at+2], other[at+3] = byte(length>>8), byte(length)
			if length != len(e.Set.Datas[0]) {
				no(t, other)
			}
		}
	}
}

// P8.2: whatever is decoded is encoded to the same bytes, and the other way; each byte changed in each way.
func TestThereAndBack(t *testing.T) {
	for _, e := range entries()[:7] {
		b := written(e)
		for i := range b {
			for x := range 256 {
				other := bytes.Clone(b)
				other[i] = byte(x)
				back(t, other)
			}
		}
	}
}

// back decodes bytes; if they are an entry, they are its bytes.
func back(t *testing.T, b []byte) bool {
	t.Helper()
	e, err := entry.Decode(b)
	if err == api.ErrEntry {
		return false
	}
	got, again := entry.Encode(e)
	if err != api.OK || again != api.OK || !bytes.Equal(got, b) || !bytes.Equal(written(e), b) {
		t.Errorf("Decode of %x is %s, %d, Encode of that %x, %d", b, short(e), err, got, again)
	}
	return true
}

// drawnName is a name.
func drawnName(r *rand.Rand) string {
	n := ""
	for range r.IntN(4) {
		size := 1 + r.IntN(5)
		n += string([]byte{byte(size)})
		for range size {
			n += string([]byte{byte(r.IntN(256))})
		}
	}
	return n + root
}

// drawn is an entry that can be.
func drawn(r *rand.Rand) api.Entry {
	s := api.Set{Name: drawnName(r), Type: 1000 + r.IntN(64536), Class: r.IntN(65536)}
	if r.IntN(4) == 0 {
		return api.Entry{Delete: true, Set: s}
	}
	s.Rank, s.Expires = 1+r.IntN(3), r.IntN(1<<40+1)
	if s.Kind = r.IntN(3); s.Kind != api.SetData {
		s.Zone, s.Datas = drawnName(r), [][]byte{append([]byte(drawnName(r)+drawnName(r)), make([]byte, 20)...)}
		if s.Kind == api.SetNothing {
			s.Type = 0
		}
		return api.Entry{Set: s}
	}
	for range 1 + r.IntN(5) {
		b := make([]byte, r.IntN(40))
		for i := range b {
			b[i] = byte(r.IntN(256))
		}
		s.Datas = append(s.Datas, b)
	}
	return api.Entry{Set: s}
}

// P8.2: drawn entries, there and back; and their bytes with some changed, cut out or put in.
func TestDrawn(t *testing.T) {
	r := rand.New(rand.NewPCG(8, 2))
	kept := 0
	for range 20000 {
		e := drawn(r)
		can(t, e)
		b := written(e)
		at, to := r.IntN(len(b)), r.IntN(len(b))
		switch r.IntN(3) {
		case 0:
			b[at] ^= byte(1 << r.IntN(8))
			b[to] = byte(r.IntN(3))
		case 1:
			b = append(b[:min(at, to):min(at, to)], b[max(at, to):]...)
		case 2:
			b = append(b[:at:at], append([]byte{byte(r.IntN(4))}, b[at:]...)...)
		}
		if back(t, b) {
			kept++
		}
		if t.Failed() {
			t.FailNow()
		}
	}
	if kept == 0 {
		t.Error("none of the bytes that were changed is an entry")
	}
}

// Memory: what was read is shared with nothing.
func TestDecodeMemory(t *testing.T) {
	e := api.Entry{Set: with(data(), func(s *api.Set) { s.Type, s.Datas = 777, [][]byte{{1, 2}, {3}, {4, 5, 6}} })}
	b := append(written(e), 7, 8, 9)[:len(written(e))]
	was := string(b[:cap(b)])
	first, _ := entry.Decode(b)
	second, _ := entry.Decode(b)
	l := first.Set.Datas
	for i := range l {
		for j := range l[i][:cap(l[i])] {
			l[i][:cap(l[i])][j] = 0xee
		}
		if want := fmt.Sprint([][]byte{{0xee, 0xee}, {3}, {4, 5, 6}}); i == 0 && fmt.Sprint(l) != want {
			t.Errorf("behind a change of the first data they are %v", l)
		}
	}
	_ = append(l, []byte{1})
	if string(b[:cap(b)]) != was || !same(second, e) {
		t.Errorf("the bytes are %x, another answer %s", b, short(second))
	}
	for i := range b {
		b[i] = 0xdd
	}
	if !same(second, e) {
		t.Errorf("behind a change of the bytes the entry is %s", short(second))
	}
}

// Memory: bytes that were written are shared with nothing, and room behind data is not written to.
func TestEncodeMemory(t *testing.T) {
	room := []byte{1, 2, 3, 4, 5, 6, 7, 8}
	list := [][]byte{room[:4], {9, 9, 9, 9}, {8}}
	s := with(data(), func(s *api.Set) { s.Datas = list[:2] })
	want := string(written(api.Entry{Set: s}))
	first, _ := entry.Encode(api.Entry{Set: s})
	second, _ := entry.Encode(api.Entry{Set: s})
	if fmt.Sprint(list) != "[[1 2 3 4] [9 9 9 9] [8]]" || fmt.Sprint(room) != "[1 2 3 4 5 6 7 8]" {
		t.Errorf("what was handed in is %v, the room %v", list, room)
	}
	for i := range first[:cap(first)] {
		first[:cap(first)][i] = 0xee
	}
	room[0], list[1] = 77, nil
	if string(second) != want {
		t.Errorf("the bytes are %x", second)
	}
}
