package rrset_test

import (
	"fmt"
	"math"
	"slices"
	"strings"
	"testing"

	"cicerone/api"
	"cicerone/rrset"
)

// set is a set of TypeA, ClassIN and RankAnswer, of addresses by their last bytes.
func set(name string, expires int, last ...byte) api.Set {
	s := api.Set{Name: name, Type: api.TypeA, Class: api.ClassIN, Rank: api.RankAnswer, Expires: expires}
	for _, b := range last {
		s.Datas = append(s.Datas, []byte{192, 0, 2, b})
	}
	return s
}

// groups asks what records come to, of RankAnswer.
func groups(t *testing.T, now int, l []api.RR, want ...api.Set) {
	t.Helper()
	is(t, rrset.Group(l, api.RankAnswer, now), want)
}

// P9.2: the chapter's example.
func TestExample(t *testing.T) {
	const a, great = "\x03www\x01a\x00", "\x03WWW\x01A\x00"
	groups(t, 100, []api.RR{rr(a, 5, 1), rr(great, 9, 2)}, set(a, 105, 1, 2))
	groups(t, 100, []api.RR{rr(great, 9, 2), rr(a, 5, 1)}, set(great, 105, 1, 2))
}

// P9.2: records of several names, types and classes, in the order of the first ones.
func TestGroup(t *testing.T) {
	text := func(ttl int, s string) api.RR {
		return api.RR{Name: www, Type: api.TypeTXT, Class: api.ClassIN, TTL: ttl, Data: append([]byte{byte(len(s))}, s...)}
	}
	chaos := with(rr(www, 50, 9), func(r *api.RR) { r.Class = 3 })
	groups(t, 10, []api.RR{
		text(70, "b"), rr(www, 20, 5), rr(root, 30, 1), chaos, rr(great, 40, 4), text(60, "a"), rr(example, 80, 1), rr(www, 25, 5), with(chaos, func(r *api.RR) { r.Name = great }),
	},
		api.Set{Name: www, Type: api.TypeTXT, Class: 1, Rank: 3, Expires: 70, Datas: datas("\x01a", "\x01b")},
		set(www, 30, 4, 5),
		set(root, 40, 1),
		with(set(www, 60, 9), func(s *api.Set) { s.Class = 3 }),
		set(example, 90, 1),
	)
	groups(t, 10, nil)
	groups(t, 10, []api.RR{})
}

// P9.2: names are the same but for the size of letters; all else in them tells them apart.
func TestGroupNames(t *testing.T) {
	same := []string{"\x03abz\x02no\x00", "\x03Abz\x02no\x00", "\x03ABZ\x02NO\x00", "\x03aBz\x02nO\x00"}
	for i, n := range same {
		for _, m := range same {
			groups(t, 0, []api.RR{rr(n, 5, 1), rr(m, 4, 2), rr(n, 6, byte(i))}, with(set(n, 4, 1, 2, byte(i)), func(s *api.Set) { s.Datas = ordered(s.Datas) }))
		}
	}
	apart := []string{
		root, "\x01a\x00", "\x01b\x00", "\x01a\x01b\x00", "\x03a.b\x00", "\x03a\x01b\x00", "\x01b\x01a\x00", "\x02ab\x00",
		"\x01@\x00", "\x01`\x00", "\x01[\x00", "\x01{\x00", "\x01\xc1\x00", "\x01\xe1\x00", "\x01\x00\x00", "\x01 \x00",
	}
	for _, n := range apart {
		for _, m := range apart {
			if n != m {
				groups(t, 0, []api.RR{rr(n, 5, 1), rr(m, 4, 1)}, set(n, 5, 1), set(m, 4, 1))
			}
		}
	}
}

// P9.2: types and classes tell sets apart, to their ends.
func TestGroupKeys(t *testing.T) {
	numbers := []int{0, 1, 2, 255, 256, 777, 32768, 65534, 65535}
	var l []api.RR
	var want []api.Set
	for _, kind := range numbers[5:] {
		for _, class := range numbers {
			l = append(l, api.RR{Name: www, Type: kind, Class: class, TTL: kind + class, Data: []byte{7}})
			want = append(want, api.Set{Name: www, Type: kind, Class: class, Rank: 3, Expires: min(kind+class, day), Datas: datas("\x07")})
		}
	}
	groups(t, 0, l, want...)
	groups(t, 0, append(l, l...), want...)
}

// lost is records that play no part.
func lost() []api.RR {
	good := rr(great, 1, 77)
	var l []api.RR
	for _, n := range []string{"", noName, "\x03www\x07example", "www.example.", ".", "\x00\x00", "\xc0\x0c", "\x40" + strings.Repeat("x", 64) + "\x00", strings.Repeat("\x01a", 127) + "\x01\x00", strings.Repeat("\x01a", 128) + "\x00"} {
		l = append(l, with(good, func(r *api.RR) { r.Name = n }))
	}
	for _, kind := range []int{math.MinInt, -65535, -1, 0, 65536, 65536 + api.TypeA, math.MaxInt} {
		l = append(l, with(good, func(r *api.RR) { r.Type = kind }))
	}
	for _, class := range []int{math.MinInt, -65535, -1, 65536, 65537, math.MaxInt} {
		l = append(l, with(good, func(r *api.RR) { r.Class = class }))
	}
	for kind, wrong := range map[int][]string{
		api.TypeA: {"", "abc", "abcde"}, api.TypeAAAA: {"", "abcd", "fifteen bytes !", "seventeen bytes !"}, api.TypeNS: {"", "a", "\x01a", "\x00\x00"}, api.TypeCNAME: {"", "\xc0\x0c"},
		api.TypeMX: {"", "\x00", "\x00\x05", "\x00\x05a"}, api.TypeTXT: {"", "\x02a"}, api.TypeSOA: {"", string(soa(1)[1:]), string(soa(1)) + "\x00"}, api.TypePTR: {"\x01"}, api.TypeOPT: {"\x00"},
		777: {strings.Repeat("x", 65536)},
	} {
		for _, data := range wrong {
			l = append(l, with(good, func(r *api.RR) { r.Type, r.Data = kind, []byte(data) }))
		}
	}
	return l
}

// P9.2: records that can't be play no part, wherever they stand: not by their names, not by their TTLs, not by their data.
func TestGroupLost(t *testing.T) {
	for i, bad := range lost() {
		t.Run(fmt.Sprint(i), func(t *testing.T) {
			groups(t, 0, []api.RR{bad})
			groups(t, 0, []api.RR{bad, bad})
			groups(t, 0, []api.RR{bad, rr(www, 9, 1), bad, rr(great, 8, 2), bad}, set(www, 8, 1, 2))
		})
	}
	groups(t, 0, lost())
	all := append(lost(), rr(example, 9, 1))
	groups(t, 0, append(all, lost()...), set(example, 9, 1))
}

// P9.2: at the ends of their ranges fields play their part.
func TestGroupEnds(t *testing.T) {
	longest := strings.Repeat("\x01a", 127) + "\x00"
	for _, n := range []string{root, longest, "\x3f" + strings.Repeat("x", 63) + "\x00"} {
		groups(t, 0, []api.RR{rr(n, 9, 1)}, set(n, 9, 1))
	}
	for _, kind := range []int{3, 255, 65535} {
		for _, class := range []int{0, 1, 65535} {
			r := api.RR{Name: www, Type: kind, Class: class, TTL: 5}
			groups(t, 1, []api.RR{r}, api.Set{Name: www, Type: kind, Class: class, Rank: 3, Expires: 6, Datas: [][]byte{{}}})
		}
	}
	groups(t, 0, []api.RR{{Name: www, Type: api.TypeOPT, Class: 4096, TTL: 5}}, api.Set{Name: www, Type: api.TypeOPT, Class: 4096, Rank: 3, Expires: 5, Datas: [][]byte{nil}})
}

// P9.2: when a set expires: now, and the least of its TTLs, as these count.
func TestGroupTimes(t *testing.T) {
	for now, counts := range times() {
		for ttl, least := range ttls() {
			groups(t, now, []api.RR{rr(www, ttl, 1)}, set(www, counts+least, 1))
			groups(t, now, []api.RR{rr(www, 10, 1), rr(www, ttl, 2)}, set(www, counts+min(least, 10), 1, 2))
			groups(t, now, []api.RR{rr(www, ttl, 1), rr(www, 10, 2)}, set(www, counts+min(least, 10), 1, 2))
		}
	}
	groups(t, 7, []api.RR{rr(www, 30, 1), rr(www, 20, 2), rr(www, 25, 3)}, set(www, 27, 1, 2, 3))
	groups(t, 7, []api.RR{rr(www, 30, 1), rr(www, 20, 1)}, set(www, 27, 1))
	groups(t, 7, []api.RR{rr(www, 30, 1), rr(example, 20, 2)}, set(www, 37, 1), set(example, 27, 2))
}

// P9.2: the rank; of one that can't be there is no set.
func TestGroupRanks(t *testing.T) {
	l := []api.RR{rr(www, 5, 1), rr(example, 5, 1)}
	for _, rank := range []int{1, 2, 3} {
		ranked := func(s *api.Set) { s.Rank = rank }
		is(t, rrset.Group(l, rank, 0), []api.Set{with(set(www, 5, 1), ranked), with(set(example, 5, 1), ranked)})
	}
	for _, rank := range []int{math.MinInt, -1, 0, 4, 256 + 1, math.MaxInt} {
		is(t, rrset.Group(l, rank, 0), nil)
	}
}

// P9.2: sets that can't be kept are left out, the others are not; data that stand there twice count once.
func TestGroupTooLong(t *testing.T) {
	// The bytes of an entry of the root's, but for its data.
	const ahead = 1 + 1 + 1 + 2 + 2 + 1 + 1 + 8 + 1 + 2
	of := func(sizes ...int) []api.RR {
		var l []api.RR
		for i, size := range sizes {
			l = append(l, api.RR{Name: root, Type: 777, Class: 1, TTL: 9, Data: []byte(strings.Repeat(string(rune('a'+i)), size))})
		}
		return l
	}
	kept := func(l []api.RR) api.Set {
		s := api.Set{Name: root, Type: 777, Class: 1, Rank: 3, Expires: 9}
		for _, r := range l {
			s.Datas = append(s.Datas, r.Data)
		}
		return s
	}
	for _, l := range [][]api.RR{of(4000 - ahead - 2), of(1000, 2000, 4000-ahead-3000-6)} {
		groups(t, 0, l, kept(l))
		groups(t, 0, append(append(l, l...), l...), kept(l))
	}
	for _, l := range [][]api.RR{of(4000 - ahead - 1), of(1000, 2000, 4000-ahead-3000-5), of(65535)} {
		groups(t, 0, l)
		groups(t, 0, append(append([]api.RR{rr(www, 5, 1)}, l...), rr(example, 5, 1)), set(www, 5, 1), set(example, 5, 1))
	}
	var many []api.RR
	for i := range 100000 {
		many = append(many, api.RR{Name: root, Type: 777, Class: 1, Data: []byte{byte(i), byte(i >> 8), byte(i >> 16)}})
	}
	groups(t, 0, append(many, rr(www, 5, 1)), set(www, 5, 1))
}

// Memory: what is handed in stays as it is, and an answer shares nothing.
func TestGroupMemory(t *testing.T) {
	var in []api.RR
	for i, data := range datas("bbbb", "aaaa", "bbbb", "cccc", "dddd", "eeee") {
		in = append(in, api.RR{Name: []string{www, great, root}[i%3], Type: api.TypeA, Class: 1, TTL: i, Data: data})
	}
	in = in[:5:6]
	var all [][]byte
	for _, r := range in[:6] {
		all = append(all, r.Data)
	}
	list, was := told(in[:6]), whole(all)
	first, second := rrset.Group(in, 3, 0), rrset.Group(in, 3, 0)
	if told(in[:6]) != list || whole(all) != was {
		t.Errorf("what was handed in is%s\nand was%s", told(in[:6]), list)
	}
	want := told(second)
	for _, s := range slices.Concat(first, second) {
		all = append(all, s.Datas...)
		_ = append(s.Datas, []byte("more"))
	}
	apart(t, all...)
	in[0], first[0].Datas[0] = api.RR{}, nil
	if told(second) != want {
		t.Errorf("another answer is%s\nand was%s", told(second), want)
	}
}
