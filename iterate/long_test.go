package iterate_test

import (
	"fmt"
	"strings"
	"testing"

	"cicerone/api"
)

// Ends: as many hints as nobody has.
func TestLongHints(t *testing.T) {
	w := begun(t, q, make([]api.RR, 1000000))
	w.fails()
	l := make([]api.RR, 200000)
	for i := range l {
		l[i] = host(".", i%200)
	}
	w = begun(t, q, l)
	for i := range api.MaxWork {
		w.loses(i, ".", q)
	}
	w.fails()
}

// Ends: messages far longer than those that come: each of many names has a record, and one has many.
func TestLongMessages(t *testing.T) {
	var many, same []api.RR
	for i := range 100000 {
		many = append(many, text(fmt.Sprintf("n%d.com.", i), "x"))
		same = append(same, text("www.com.", fmt.Sprint(i%50)))
	}
	w := waiting(t, q)
	w.hears(answer(append(many, text("www.com.", "x"))...), "com.", came(0, 3, text("www.com.", "x")))
	w = waiting(t, q)
	if l := w.task.Hear(w.store, answer(same...), 0); len(l) != 1 || len(l[0].Set.Datas) != 50 {
		t.Errorf("Hear is %v", l)
	}
	for i := range many {
		many[i] = host(fmt.Sprintf("n%d.com.", i), i%256)
	}
	var l []api.RR
	var want []api.Set
	for i := range 200 {
		l = append(l, ns("www.com.", fmt.Sprintf("n%d.com.", 100+i)))
		want = append(want, came(0, 1, host(fmt.Sprintf("n%d.com.", 100+i), (100+i)%256)))
	}
	w = waiting(t, q)
	w.hears(referral(l, many...), "com.", append([]api.Set{came(0, 2, l...)}, want...)...)
}

// Ends: a name of as many labels as can be, with servers at each of them, as many as a set can have, none of which has an address.
func TestLongZones(t *testing.T) {
	deep := strings.Repeat("d.", 127)
	w := begun(t, asked(deep, 1), hinted(1))
	for labels := range 127 {
		var l []string
		for i := range 300 {
			l = append(l, fmt.Sprintf("%d.e.", i))
		}
		w.put(servers(strings.Repeat("d.", labels+1), l...))
	}
	w.asks(1, ".", asked("0.e.", 1))
	w.put(servers("e.", "d.d.d.", "e.d.", "f.d."))
	for w.task.Next(w.store, w.table, 0, 0).Kind == api.WantAsk {
		w.asked++
		w.is(asked(deep, 1))
	}
	if w.asked > api.MaxWork {
		t.Errorf("asked were %d", w.asked)
	}
	w.fails()
}
