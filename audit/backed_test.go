package audit_test

import (
	"fmt"
	"math"
	"slices"
	"strings"
	"testing"

	"cicerone/api"
)

// ttl is a record with another TTL.
func ttl(n int, r api.RR) api.RR {
	r.TTL = n
	return r
}

// P24.2, P24.4: journals without records in replies, or without replies.
func TestBackedNone(t *testing.T) {
	backed(t, "nil", true, nil)
	backed(t, "empty", true, []api.Event{}, []api.Accept{}...)
	backed(t, "no records", true, told(0))
	backed(t, "accepts alone", true, nil, accepted(0, 5, ".", host("a.", 1)))
	m := with(query(1, asked("a.", 1)), func(m *api.Message) { m.Answers = []api.RR{host("a.", 1)} })
	m.Authority, m.Additional = m.Answers, m.Answers
	backed(t, "records of a query", true, []api.Event{came(1, m), came(1, reply(m, m.Answers...))})
	r := reply(query(1, asked("a.", 1)))
	r.Additional = []api.RR{host("a.", 1)}
	backed(t, "records in Additional", true, []api.Event{went(1, 0, r)})
}

// P24.2: one record and one accept, in Answers and in Authority.
func TestBacked(t *testing.T) {
	r := ttl(10, host("www.example.", 1))
	for what, journal := range map[string]func(at int, l ...api.RR) []api.Event{"Answers": told, "Authority": authority} {
		l := journal(100, r)
		backed(t, what+", none", false, l)
		backed(t, what, true, l, accepted(100, 10, "example.", r))
		for other, change := range map[string]func(a *api.Accept){
			"name":           func(a *api.Accept) { a.Set.Name = named("example.") },
			"name below":     func(a *api.Accept) { a.Set.Name = named("x.www.example.") },
			"Type":           func(a *api.Accept) { a.Set.Type = 2 },
			"Class":          func(a *api.Accept) { a.Set.Class = 3 },
			"data":           func(a *api.Accept) { a.Set.Datas = [][]byte{{1, 2, 3, 4}} },
			"longer data":    func(a *api.Accept) { a.Set.Datas = [][]byte{append(slices.Clone(r.Data), 0)} },
			"shorter data":   func(a *api.Accept) { a.Set.Datas = [][]byte{r.Data[:3]} },
			"no data":        func(a *api.Accept) { a.Set.Datas = nil },
			"zone":           func(a *api.Accept) { a.Zone = named("net.") },
			"zone below":     func(a *api.Accept) { a.Zone = named("x.www.example.") },
			"zone beside":    func(a *api.Accept) { a.Zone = named("ww.example.") },
			"no zone":        func(a *api.Accept) { a.Zone = "" },
			"a zone by hand": func(a *api.Accept) { a.Zone = "example." },
			"Kind none":      func(a *api.Accept) { a.Set.Kind = api.SetNone },
			"Kind nothing":   func(a *api.Accept) { a.Set.Kind = api.SetNothing },
			"Kind by hand":   func(a *api.Accept) { a.Set.Kind = -1 },
			"later":          func(a *api.Accept) { a.At++ },
			"TTL":            func(a *api.Accept) { a.TTL-- },
		} {
			bad := with(accepted(100, 10, "example.", r), change)
			backed(t, what+", another "+other, false, l, bad)
			backed(t, what+", another "+other+" ahead", true, l, bad, accepted(100, 10, "example.", r))
			backed(t, what+", another "+other+" behind", true, l, accepted(100, 10, "example.", r), bad)
		}
		for other, change := range map[string]func(a *api.Accept){
			"letters":           func(a *api.Accept) { a.Set.Name = strings.ToUpper(a.Set.Name) },
			"letters of a zone": func(a *api.Accept) { a.Zone = named("eXample.") },
			"the root":          func(a *api.Accept) { a.Zone = "\x00" },
			"its own zone":      func(a *api.Accept) { a.Zone = r.Name },
			"Rank":              func(a *api.Accept) { a.Set.Rank = -5 },
			"Expires":           func(a *api.Accept) { a.Set.Expires = 0 },
			"Zone of the set":   func(a *api.Accept) { a.Set.Zone = named("net.") },
			"earlier, longer":   func(a *api.Accept) { a.At, a.TTL = 0, 110 },
			"more data":         func(a *api.Accept) { a.Set.Datas = [][]byte{{}, {1, 2, 3, 4}, r.Data, nil} },
		} {
			backed(t, what+", "+other, true, l, with(accepted(100, 10, "example.", r), change))
		}
	}
}

// P24.2: from At on to below At and TTL together, with at most what is left.
func TestBackedTimes(t *testing.T) {
	r := host("a.", 1)
	a := accepted(100, 10, ".", r)
	for at := 95; at < 115; at++ {
		for _, left := range []int{math.MinInt, -1, 0, 1, 2, 5, 9, 10, 11, math.MaxInt} {
			want := at >= 100 && at < 110 && left <= 110-at
			backed(t, fmt.Sprint("at ", at, " a TTL of ", left), want, told(at, ttl(left, r)), a)
			backed(t, fmt.Sprint("at ", at, " a TTL of ", left, " in Authority"), want, authority(at, ttl(left, r)), a)
		}
	}
	for _, none := range []int{0, -1, math.MinInt} {
		backed(t, "no time", false, told(100, ttl(0, r)), accepted(100, none, ".", r))
		backed(t, "no time, and none left", false, told(100, ttl(none, r)), accepted(100, none, ".", r))
	}
	// Two accepts do not make up for one another.
	backed(t, "one that is over, one that has not begun", false, told(20, ttl(1, r)), accepted(10, 10, ".", r), accepted(21, 10, ".", r))
	backed(t, "the later one lasts", true, told(20, ttl(15, r)), accepted(10, 11, ".", r), accepted(15, 20, ".", r))
	backed(t, "the earlier one lasts", true, told(20, ttl(15, r)), accepted(10, 25, ".", r), accepted(20, 2, ".", r))
}

// P24.2: times far apart, whose sums and differences have no room in an int.
func TestBackedFar(t *testing.T) {
	r := host("a.", 1)
	for what, c := range map[string]struct {
		at, when, ttl, left int
		want                bool
	}{
		"all time":             {math.MinInt, math.MinInt, math.MaxInt, math.MaxInt, true},
		"later":                {math.MinInt, math.MinInt + 1, math.MaxInt, math.MaxInt, false},
		"later, less":          {math.MinInt, math.MinInt + 1, math.MaxInt, math.MaxInt - 1, true},
		"the last tick":        {math.MinInt, -2, math.MaxInt, 1, true},
		"over":                 {math.MinInt, -1, math.MaxInt, 1, false},
		"long over":            {math.MinInt, math.MaxInt, math.MaxInt, 0, false},
		"the latest":           {math.MaxInt, math.MaxInt, math.MaxInt, math.MaxInt, true},
		"beyond the latest":    {math.MaxInt - 1, math.MaxInt, 3, 2, true},
		"beyond it, too long":  {math.MaxInt - 1, math.MaxInt, 3, 3, false},
		"not begun":            {math.MaxInt, math.MinInt, math.MaxInt, 0, false},
		"not begun, backwards": {math.MaxInt, math.MinInt, math.MinInt, math.MinInt, false},
		"less than none left":  {5, 6, 2, math.MinInt, true},
	} {
		a := accepted(0, 0, ".", r)
		a.At, a.TTL = c.at, c.ttl
		backed(t, what, c.want, told(c.when, ttl(c.left, r)), a)
	}
}

// P24.2: what says that there is nothing backs its zone's SOA, and nothing of the question's name.
func TestBackedDenied(t *testing.T) {
	start := ttl(10, soa("example.", "m.example."))
	q := asked("www.example.", api.TypeA)
	for _, kind := range []int{api.SetNone, api.SetNothing, 3, -1} {
		a := denied(100, 10, "example.", kind, q, start)
		backed(t, "an SOA", true, authority(100, start), a)
		backed(t, "an SOA in Answers", true, told(100, start), a)
		backed(t, "an SOA by other letters", true, authority(100, with(start, func(r *api.RR) { r.Name = named("EXAMPLE.") })), a)
		backed(t, "too long", false, authority(100, ttl(11, start)), a)
		backed(t, "over", false, authority(110, ttl(0, start)), a)
		for what, change := range map[string]func(r *api.RR){
			"the question's name": func(r *api.RR) { r.Name = q.Name },
			"its name and Type":   func(r *api.RR) { r.Name, r.Type = q.Name, q.Type },
			"its Type":            func(r *api.RR) { r.Type = q.Type },
			"the set's Type":      func(r *api.RR) { r.Type = a.Set.Type },
			"Class":               func(r *api.RR) { r.Class = 3 },
			"data":                func(r *api.RR) { r.Data = soa("example.", "n.example.").Data },
			"letters of data":     func(r *api.RR) { r.Data = soa("example.", "M.example.").Data },
			"no name":             func(r *api.RR) { r.Name = "" },
		} {
			backed(t, "another "+what, false, authority(100, with(start, change)), a)
		}
		// The owner that must lie within the accept's zone is the set's Name, wherever the SOA lies.
		backed(t, "a name outside", false, authority(100, start), with(a, func(a *api.Accept) { a.Set.Name = named("www.net.") }))
		backed(t, "an SOA outside", true, authority(100, start), with(a, func(a *api.Accept) { a.Zone = q.Name }))
		for _, n := range noNames {
			backed(t, "a zone that is none", false, authority(100, with(start, func(r *api.RR) { r.Name = n })), with(a, func(a *api.Accept) { a.Set.Zone = n }))
		}
	}
	// A set of data of TypeSOA is one of its own name.
	own := accepted(100, 10, ".", start)
	own.Set.Zone = named("net.")
	backed(t, "data", true, told(100, start), own)
	backed(t, "data of a zone", false, told(100, with(start, func(r *api.RR) { r.Name = named("net.") })), own)
}

// P24.2: names that are none have no accept.
func TestBackedNoName(t *testing.T) {
	for _, n := range noNames {
		r := with(host("a.", 1), func(r *api.RR) { r.Name, r.TTL = n, 1 })
		for _, other := range append(noNames, "\x00", named("a.")) {
			a := accepted(0, 10, ".", r)
			a.Set.Name = other
			backed(t, "no name", false, told(5, r), a)
			a.Zone = n
			backed(t, "no name, no zone", false, told(5, r), a)
			a.Zone = other
			backed(t, "no name, its own zone", false, told(5, r), a)
		}
	}
}

// P24.2: numbers made by hand are held against each other as they stand; data may be empty.
func TestBackedByHand(t *testing.T) {
	for _, number := range []int{math.MinInt, -1, 0, 65536, math.MaxInt} {
		r := api.RR{Name: "\x00", Type: number, Class: number, TTL: 1}
		a := accepted(0, 10, ".", r)
		backed(t, "by hand", true, told(5, r), a)
		backed(t, "empty data", true, told(5, with(r, func(r *api.RR) { r.Data = []byte{} })), a)
		backed(t, "another Type", false, told(5, with(r, func(r *api.RR) { r.Type ^= 1 })), a)
		backed(t, "another Class", false, told(5, with(r, func(r *api.RR) { r.Class ^= 1 })), a)
	}
}

// P24.2: each record of each reply; sections and replies share accepts.
func TestBackedAll(t *testing.T) {
	x, y, z := ttl(5, host("x.", 1)), ttl(5, host("y.", 2)), ttl(5, soa(".", "m."))
	r := reply(query(1, asked("x.", 1)), x, y, x)
	r.Authority = []api.RR{z, x}
	l := []api.Event{went(1, 10, r), came(1, r), went(2, 11, reply(r, y)), went(-1, 14, reply(r))}
	all := []api.Accept{accepted(10, 9, ".", x), accepted(9, 10, ".", y), accepted(3, 16, ".", z)}
	backed(t, "all", true, l, all...)
	for i := range all {
		backed(t, fmt.Sprint("without ", i), false, l, slices.Delete(slices.Clone(all), i, i+1)...)
		backed(t, fmt.Sprint("with less of ", i), false, l, append(slices.Delete(slices.Clone(all), i, i+1), with(all[i], func(a *api.Accept) { a.TTL -= 4 }))...)
	}
	two := accepted(0, 20, ".", host("x.", 1), host("x.", 2))
	backed(t, "two of one set", true, told(10, ttl(9, host("x.", 2)), ttl(10, host("x.", 1))), two)
	backed(t, "a third one", false, told(10, ttl(9, host("x.", 2)), ttl(10, host("x.", 3))), two)
}

// Ends: many replies, records and accepts.
func TestBackedLong(t *testing.T) {
	var l []api.Event
	var a []api.Accept
	for i := range 50000 {
		n := fmt.Sprint("n", i, ".")
		a = append(a, accepted(i, 9, ".", host(n, 1), host(n, 2)))
		l = append(l, told(i, ttl(9, host(n, 1)), ttl(3, host(n, 2)))...)
	}
	backed(t, "many", true, l, a...)
	a[777].TTL = 8
	backed(t, "many, and one too short", false, l, a...)
}

// Memory: the accepts are not changed.
func TestBackedMemory(t *testing.T) {
	r := host("a.", 1)
	a := accepted(0, 400, ".", r, host("a.", 2))
	a.Set.Datas = append(a.Set.Datas, []byte("room"))[:2]
	l := append([]api.Accept{a}, api.Accept{At: 7})[:1]
	was := fmt.Sprint(l[:2], l[0].Set.Datas[:3])
	backed(t, "roomy", true, told(1, r), l...)
	if now := fmt.Sprint(l[:2], l[0].Set.Datas[:3]); now != was {
		t.Errorf("the accepts have become %s, not %s", now, was)
	}
}
