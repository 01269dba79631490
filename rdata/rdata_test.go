package rdata_test

import (
	"math"
	"slices"
	"strings"
	"testing"

	"cicerone/api"
	"cicerone/rdata"
)

// Types without rules of their own, the least and the greatest one among them.
var others = []int{0, 3, 4, 7, 11, 13, 14, 17, 27, 29, 40, 42, 255, 256, 300, 0x8002, 65534, 65535}

// Types with names in their data.
var named = []int{api.TypeNS, api.TypeCNAME, api.TypePTR, api.TypeMX, api.TypeSOA}

// join is bytes as on the wire: each label with its length ahead, the byte 0 behind.
func join(labels ...string) string {
	n := ""
	for _, l := range labels {
		n += string([]byte{byte(len(l))}) + l
	}
	return n + "\x00"
}

// times is a text of one letter, so many times over.
func times(size int) string { return strings.Repeat("x", size) }

// names are of every make, the longest ones too.
func names() []string {
	return []string{
		"\x00",
		join("a"),
		join("www", "Example"),
		join("a.b", "\x00\xff"),
		join(times(63)),
		strings.Repeat("\x01a", 127) + "\x00",
		join(times(63), times(63), times(63), times(61)),
	}
}

// wrongNames are bytes that are no name; none of them ends behind a name.
func wrongNames() []string {
	return []string{
		"",
		"a",
		"\x01",
		"\x01a",
		"\x02a\x00",
		"\x03www\x07Example",
		"\xc0\x00",
		"\x01a\xc0\x0c",
		"\x40" + times(64) + "\x00",
		"\xbf" + times(191) + "\x00",
		"\xff" + times(255) + "\x00",
		join(times(64)),
		join("a", times(64)),
		"\x02aa" + strings.Repeat("\x01a", 126) + "\x00",
		join(times(63), times(63), times(63), times(62)),
		strings.Repeat("\x01a", 30000),
		strings.Repeat("\x01a", 30000) + "\x00",
	}
}

// can asks whether bytes are data of a type, whatever stands in the room behind them.
func can(t *testing.T, typ int, data string, want bool) {
	t.Helper()
	if rdata.Can(typ, []byte(data)) != want {
		t.Errorf("type %d, %d bytes %.40q: Can is %v", typ, len(data), data, !want)
	}
	room := append([]byte(data), strings.Repeat("\x00", 40)...)
	if rdata.Can(typ, room[:len(data)]) != want {
		t.Errorf("type %d, %d bytes %.40q: with room behind them Can is %v", typ, len(data), data, !want)
	}
	if !want {
		if l := rdata.Names(typ, []byte(data)); len(l) != 0 {
			t.Errorf("type %d, %d bytes %.40q: no data, but Names %q", typ, len(data), data, l)
		}
	}
}

// P3.1: addresses have one length each.
func TestAddresses(t *testing.T) {
	for size := range 40 {
		can(t, api.TypeA, times(size), size == 4)
		can(t, api.TypeAAAA, times(size), size == 16)
		can(t, api.TypeA, strings.Repeat("\x00", size), size == 4)
		can(t, api.TypeAAAA, strings.Repeat("\xff", size), size == 16)
	}
	can(t, api.TypeA, times(1<<16), false)
	can(t, api.TypeAAAA, times(1<<16), false)
}

// P3.1: a name, and nothing else.
func TestName(t *testing.T) {
	for _, typ := range []int{api.TypeNS, api.TypeCNAME, api.TypePTR} {
		for _, n := range names() {
			can(t, typ, n, true)
			can(t, typ, n[:len(n)-1], false)
			for _, more := range []string{"\x00", "a", "\x01a\x00"} {
				can(t, typ, n+more, false)
			}
		}
		for _, n := range wrongNames() {
			can(t, typ, n, false)
		}
	}
}

// P3.1: two bytes and a name.
func TestMX(t *testing.T) {
	for _, n := range names() {
		for _, ahead := range []string{"\x00\x00", "\x00\x05", "\xff\xff", "\xc0\x0c"} {
			can(t, api.TypeMX, ahead+n, true)
			can(t, api.TypeMX, ahead+n+"\x00", false)
			can(t, api.TypeMX, ahead+n[:len(n)-1], false)
		}
	}
	for _, n := range wrongNames() {
		can(t, api.TypeMX, "\x00\x05"+n, false)
	}
	can(t, api.TypeMX, "", false)
	can(t, api.TypeMX, "\x00", false)
	can(t, api.TypeMX, "\x00\x00", false)
	can(t, api.TypeMX, "\x05\x00", false)
}

// P3.1: two names and twenty bytes.
func TestCanSOA(t *testing.T) {
	behind := "abcdefghijklmnopqrst"
	for _, m := range names() {
		for _, r := range names() {
			can(t, api.TypeSOA, m+r+behind, true)
			can(t, api.TypeSOA, m+r+behind[1:], false)
			can(t, api.TypeSOA, m+r+behind+"u", false)
			can(t, api.TypeSOA, m+r, false)
		}
		can(t, api.TypeSOA, m, false)
		for _, wrong := range wrongNames() {
			can(t, api.TypeSOA, m+wrong, false)
			can(t, api.TypeSOA, wrong, false)
			// What ends a wrong name may be what it lacks, if it stands ahead of more.
			if len(wrong) > 64 || strings.Contains(wrong, "\xc0") {
				can(t, api.TypeSOA, m+wrong+behind, false)
				can(t, api.TypeSOA, wrong+m+behind, false)
			}
		}
	}
	for size := range 30 {
		can(t, api.TypeSOA, strings.Repeat("\x00", size), size == 22)
	}
}

// P3.1: one or more texts of 0 to 255 bytes.
func TestTexts(t *testing.T) {
	can(t, api.TypeTXT, "", false)
	all := ""
	for size := range 256 {
		text := string([]byte{byte(size)}) + times(size)
		all += text
		can(t, api.TypeTXT, text, true)
		can(t, api.TypeTXT, all, true)
		can(t, api.TypeTXT, all+"\x00", true)
		can(t, api.TypeTXT, "\x00"+text, true)
		can(t, api.TypeTXT, text[:len(text)-1], false)
		can(t, api.TypeTXT, text+"\x01", false)
		can(t, api.TypeTXT, all+"\x02a", false)
	}
	can(t, api.TypeTXT, "\x00\x00\x00", true)
	can(t, api.TypeTXT, "\x00\x01", false)
	can(t, api.TypeTXT, "\xff", false)
	can(t, api.TypeTXT, strings.Repeat("\xff", 255), false)
	can(t, api.TypeTXT, strings.Repeat("\xff", 256), true)
	can(t, api.TypeTXT, strings.Repeat("\xff", 257), false)
}

// P3.1: any number of options.
func TestOptions(t *testing.T) {
	for _, data := range []string{
		"",
		"\x00\x00\x00\x00",
		"\xff\xff\x00\x00",
		"\x00\x0a\x00\x03abc",
		"\x00\x0a\x00\x03abc\x00\x0b\x00\x00\x00\x0c\x00\x01d",
		"\x00\x0a\x01\x00" + times(256),
		"\x00\x0a\x01\x02" + times(258) + "\x00\x00\x00\x00",
	} {
		can(t, api.TypeOPT, data, true)
		can(t, api.TypeOPT, data+"\x00", false)
		can(t, api.TypeOPT, data+"\x00\x01\x00", false)
		can(t, api.TypeOPT, data+"\x00\x01\x00\x01", false)
		can(t, api.TypeOPT, data+"\x00\x01\x01\x00a", false)
		if data != "" {
			can(t, api.TypeOPT, data[:len(data)-1], false)
		}
	}
	can(t, api.TypeOPT, "\x00\x0a\xff\xff"+times(300), false)
}

// P3.1: other types have any bytes, and there are just so many types.
func TestOthers(t *testing.T) {
	for _, typ := range others {
		for _, data := range append(append(names(), wrongNames()...), "", "\x00", "xyz", times(65535)) {
			can(t, typ, data, true)
			if l := rdata.Names(typ, []byte(data)); len(l) != 0 {
				t.Errorf("type %d, %.40q: Names %q", typ, data, l)
			}
		}
	}
	for _, typ := range []int{math.MinInt, math.MinInt32, -65536, -65535, -2, -1, 65536, 65537, 65538, 65536 + api.TypeTXT, 1 << 32, 1<<32 + 1, 1<<32 + 2, math.MaxInt} {
		for _, data := range []string{"", "\x00", "abcd", "\x01a\x00", "\x00\x05\x00"} {
			can(t, typ, data, false)
		}
	}
}

// sized is data of each type of so many bytes, if it has any.
func sized(typ, size int) string {
	switch typ {
	case api.TypeTXT:
		texts := strings.Repeat("\xff"+times(255), size/256)
		if left := size % 256; left > 0 {
			texts += string([]byte{byte(left - 1)}) + times(left-1)
		}
		return texts
	case api.TypeOPT:
		first, second := size/2-4, size-size/2-4
		return "\x00\x01" + string([]byte{byte(first >> 8), byte(first)}) + times(first) +
			"\x00\x02" + string([]byte{byte(second >> 8), byte(second)}) + times(second)
	}
	return times(size)
}

// P3.1: data of 65535 bytes, and of one more.
func TestMost(t *testing.T) {
	for _, typ := range append([]int{api.TypeTXT, api.TypeOPT}, others...) {
		can(t, typ, sized(typ, 65534), true)
		can(t, typ, sized(typ, 65535), true)
		can(t, typ, sized(typ, 65536), false)
		can(t, typ, sized(typ, 65537), false)
		can(t, typ, sized(typ, 1<<17), false)
	}
	for _, typ := range named {
		for _, fill := range []string{"\x00", "\x01", "\x3f", "\x40", "\xff"} {
			can(t, typ, strings.Repeat(fill, 65535), false)
			can(t, typ, strings.Repeat(fill, 65536), false)
		}
	}
}

// Nil and no bytes are the same.
func TestNil(t *testing.T) {
	for _, typ := range append(append([]int{api.TypeA, api.TypeAAAA, api.TypeTXT, api.TypeOPT, -1, 65536}, named...), others...) {
		want := typ == api.TypeOPT || slices.Contains(others, typ)
		if rdata.Can(typ, nil) != want || rdata.Can(typ, []byte{}) != want {
			t.Errorf("type %d: Can of nothing is %v, %v", typ, rdata.Can(typ, nil), rdata.Can(typ, []byte{}))
		}
		if len(rdata.Names(typ, nil)) != 0 || len(rdata.Names(typ, []byte{})) != 0 {
			t.Errorf("type %d: Names of nothing", typ)
		}
	}
	for _, data := range [][]byte{nil, {}} {
		if s, ok := rdata.SOA(data); ok || s != (api.SOA{}) {
			t.Errorf("SOA of nothing is %v, %v", s, ok)
		}
	}
}

// tells asks for the names in data.
func tells(t *testing.T, typ int, data string, want ...string) {
	t.Helper()
	if l := rdata.Names(typ, []byte(data)); !slices.Equal(l, want) {
		t.Errorf("type %d, %.40q: Names %q", typ, data, l)
	}
}

// P3.1: the names in data, in order.
func TestNames(t *testing.T) {
	behind := "\x01a\x00\x01b\x00\x01c\x00\x01d\x00\x01e\x00" + "\x00\x00\x00\x00\x00"
	for _, m := range names() {
		tells(t, api.TypeNS, m, m)
		tells(t, api.TypeCNAME, m, m)
		tells(t, api.TypePTR, m, m)
		tells(t, api.TypeMX, "\x01a"+m, m)
		tells(t, api.TypeMX, "\x00\x00"+m, m)
		for _, r := range names() {
			tells(t, api.TypeSOA, m+r+behind, m, r)
		}
	}
	tells(t, api.TypeA, "\x02aa\x00")
	tells(t, api.TypeAAAA, "\x0e"+times(14)+"\x00")
	tells(t, api.TypeTXT, "\x01a\x00")
	tells(t, api.TypeOPT, "\x00\x01\x00\x03\x01a\x00")
}

// All data of few bytes, by what they are made of.
func TestShort(t *testing.T) {
	const letters = "\x00\x01\x02\x03a\x40\xc0"
	for _, typ := range []int{api.TypeA, api.TypeNS, api.TypeMX, api.TypeSOA, api.TypeTXT, api.TypeOPT, api.TypeAAAA, 99} {
		for n := range 7 * 7 * 7 * 7 * 7 {
			data := ""
			for left := n; left > 0; left /= 7 {
				data += string([]byte{letters[left%7]})
			}
			can(t, typ, data, short(typ, data))
		}
	}
}

// short tells whether few bytes are data of a type.
func short(typ int, data string) bool {
	switch typ {
	case api.TypeA:
		return len(data) == 4
	case api.TypeNS:
		return isName(data)
	case api.TypeMX:
		return len(data) > 2 && isName(data[2:])
	case api.TypeSOA, api.TypeAAAA:
		return false
	case api.TypeTXT:
		for more := true; more; more = data != "" {
			if data == "" || len(data) < 1+int(data[0]) {
				return false
			}
			data = data[1+int(data[0]):]
		}
	case api.TypeOPT:
		for data != "" {
			if len(data) < 4 || data[2] > 0 || len(data) < 4+int(data[3]) {
				return false
			}
			data = data[4+int(data[3]):]
		}
	}
	return true
}

// isName tells whether a few bytes are a name.
func isName(n string) bool {
	for len(n) > 0 && n[0] > 0 && int(n[0]) < min(64, len(n)) {
		n = n[1+int(n[0]):]
	}
	return n == "\x00"
}
