package rdata_test

import (
	"bytes"
	"math"
	"math/rand/v2"
	"slices"
	"testing"

	"cicerone/api"
	"cicerone/rdata"
)

// behind are an SOA's numbers as bytes.
func behind(n ...int) string {
	b := []byte{}
	for _, x := range n {
		b = append(b, byte(x/0x1000000), byte(x/0x10000), byte(x/0x100), byte(x))
	}
	return string(b)
}

// says asks that data say this, there and back.
func says(t *testing.T, s api.SOA, want string) {
	t.Helper()
	b, e := rdata.Make(s)
	if e != api.OK || string(b) != want {
		t.Errorf("Make(%v) is %q, %d", s, b, e)
	}
	if got, ok := rdata.SOA([]byte(want)); !ok || got != s {
		t.Errorf("SOA(%q) is %v, %v", want, got, ok)
	}
	if !rdata.Can(api.TypeSOA, []byte(want)) {
		t.Errorf("%q are no data of TypeSOA", want)
	}
}

// P3.2: what data say, and the data that say it.
func TestSOA(t *testing.T) {
	says(t, api.SOA{MName: "\x00", RName: "\x00"}, "\x00\x00"+behind(0, 0, 0, 0, 0))
	says(t, api.SOA{MName: join("ns", "Example"), RName: join("a.b", "example"), Serial: 0x01020304, Refresh: 0x05060708, Retry: 0x090a0b0c, Expire: 0x0d0e0f10, Minimum: 0x11121314},
		"\x02ns\x07Example\x00\x03a.b\x07example\x00\x01\x02\x03\x04\x05\x06\x07\x08\x09\x0a\x0b\x0c\x0d\x0e\x0f\x10\x11\x12\x13\x14")
	for _, m := range names() {
		for _, r := range names() {
			says(t, api.SOA{MName: m, RName: r, Serial: 1, Refresh: 2, Retry: 3, Expire: 4, Minimum: 5}, m+r+behind(1, 2, 3, 4, 5))
		}
	}
}

// refuses asks that this can't be data.
func refuses(t *testing.T, s api.SOA) {
	t.Helper()
	if b, e := rdata.Make(s); e != api.ErrArg || len(b) != 0 {
		t.Errorf("Make(%.40q, %.40q, %d, %d, %d, %d, %d) is %q, %d", s.MName, s.RName, s.Serial, s.Refresh, s.Retry, s.Expire, s.Minimum, b, e)
	}
}

// P3.2: each number at its ends and beyond.
func TestMakeNumbers(t *testing.T) {
	for _, n := range []int{0, 1, 255, 256, 65535, 65536, 1<<24 - 1, 1 << 24, 1<<31 - 1, 1 << 31, 1<<32 - 2, 1<<32 - 1} {
		says(t, api.SOA{MName: "\x00", RName: "\x01a\x00", Serial: n}, "\x00\x01a\x00"+behind(n, 0, 0, 0, 0))
		says(t, api.SOA{MName: "\x00", RName: "\x01a\x00", Refresh: n}, "\x00\x01a\x00"+behind(0, n, 0, 0, 0))
		says(t, api.SOA{MName: "\x00", RName: "\x01a\x00", Retry: n}, "\x00\x01a\x00"+behind(0, 0, n, 0, 0))
		says(t, api.SOA{MName: "\x00", RName: "\x01a\x00", Expire: n}, "\x00\x01a\x00"+behind(0, 0, 0, n, 0))
		says(t, api.SOA{MName: "\x00", RName: "\x01a\x00", Minimum: n}, "\x00\x01a\x00"+behind(0, 0, 0, 0, n))
	}
	for _, n := range []int{math.MinInt, -1 << 32, math.MinInt32, -2, -1, 1 << 32, 1<<32 + 1, 1 << 40, math.MaxInt} {
		refuses(t, api.SOA{MName: "\x00", RName: "\x00", Serial: n})
		refuses(t, api.SOA{MName: "\x00", RName: "\x00", Refresh: n})
		refuses(t, api.SOA{MName: "\x00", RName: "\x00", Retry: n})
		refuses(t, api.SOA{MName: "\x00", RName: "\x00", Expire: n})
		refuses(t, api.SOA{MName: "\x00", RName: "\x00", Minimum: n})
	}
}

// P3.2: both names are names.
func TestMakeNames(t *testing.T) {
	refuses(t, api.SOA{})
	for _, n := range append(wrongNames(), "\x00\x00", "\x01a\x00\x00", "\x00\x01a\x00", "www.example.") {
		refuses(t, api.SOA{MName: n, RName: "\x00"})
		refuses(t, api.SOA{MName: "\x00", RName: n})
		refuses(t, api.SOA{MName: n, RName: n})
	}
}

// P3.2: what is no data of TypeSOA says nothing.
func TestSOAWrong(t *testing.T) {
	twenty := behind(1, 2, 3, 4, 5)
	good := join("a", "b") + join("c") + twenty
	wrong := []string{good + "\x00", "\x00" + twenty, twenty, join("a") + "\xc0\x0c" + twenty, join(times(64)) + "\x00" + twenty, "\x00" + join(times(64)) + twenty}
	for size := range len(good) {
		wrong = append(wrong, good[:size])
	}
	for _, data := range wrong {
		if s, ok := rdata.SOA([]byte(data)); ok || s != (api.SOA{}) {
			t.Errorf("SOA(%q) is %v, %v", data, s, ok)
		}
	}
}

// P3.3: SOA of Make is it, and Make of SOA are the data.
func TestBack(t *testing.T) {
	r := rand.New(rand.NewPCG(1, 2))
	l := names()
	for range 5000 {
		s := api.SOA{
			MName:   l[r.IntN(len(l))],
			RName:   l[r.IntN(len(l))],
			Serial:  int(r.Uint32()),
			Refresh: int(r.Uint32()),
			Retry:   int(r.Uint32()),
			Expire:  int(r.Uint32()),
			Minimum: int(r.Uint32()),
		}
		b, e := rdata.Make(s)
		if back, ok := rdata.SOA(b); e != api.OK || !ok || back != s {
			t.Fatalf("SOA of Make(%v) is %v, %v", s, back, ok)
		}
		if !slices.Equal(rdata.Names(api.TypeSOA, b), []string{s.MName, s.RName}) {
			t.Fatalf("%q: Names %q", b, rdata.Names(api.TypeSOA, b))
		}
	}
	found := 0
	for range 20000 {
		data := make([]byte, 22+r.IntN(4))
		for i := range data {
			data[i] = "\x00\x01a\x02"[r.IntN(4)]
		}
		s, ok := rdata.SOA(data)
		if ok != rdata.Can(api.TypeSOA, data) {
			t.Fatalf("%q: SOA %v, Can %v", data, ok, !ok)
		}
		if !ok {
			continue
		}
		found++
		if b, e := rdata.Make(s); e != api.OK || !bytes.Equal(b, data) {
			t.Fatalf("Make of SOA(%q) is %q, %d", data, b, e)
		}
	}
	if found < 100 {
		t.Errorf("only %d data were of TypeSOA", found)
	}
}

// What is handed in stays as it is, the room behind it too; an answer is new memory.
func TestMemory(t *testing.T) {
	soa := join("a") + join("b") + behind(1, 2, 3, 4, 5)
	for _, x := range []struct {
		typ  int
		data string
	}{{api.TypeA, "abcd"}, {api.TypeNS, join("a")}, {api.TypeMX, "\x00\x05" + join("a")}, {api.TypeTXT, "\x01a"}, {api.TypeOPT, "\x00\x01\x00\x01a"}, {api.TypeSOA, soa}} {
		room := []byte(x.data + "\x01\x02\x03\x04")
		kept := bytes.Clone(room)
		data := room[:len(x.data)]
		rdata.Can(x.typ, data)
		l, again := rdata.Names(x.typ, data), rdata.Names(x.typ, data)
		rdata.SOA(data)
		if !bytes.Equal(room, kept) {
			t.Errorf("type %d: the data have changed: %q", x.typ, room)
		}
		first := slices.Clone(l)
		for i := range room {
			room[i] = 0xff
		}
		for i := range again {
			again[i] = "x"
		}
		if !slices.Equal(l, first) {
			t.Errorf("type %d: the names have changed: %q", x.typ, l)
		}
	}
	s, _ := rdata.SOA([]byte(soa))
	a, _ := rdata.Make(s)
	b, _ := rdata.Make(s)
	a = a[:cap(a)]
	for i := range a {
		a[i] = 0xff
	}
	if string(b) != soa {
		t.Errorf("two answers share: %q", b)
	}
}
