package iterate_test

import (
	"fmt"
	"testing"

	"cicerone/api"
)

// deeper is a question three labels below com.
var deeper = asked("a.b.c.com.", textType)

// P20.3: a referral's servers are accepted, and their addresses, and are asked next.
func TestReferral(t *testing.T) {
	n := ns("c.com.", "ns.c.com.")
	w := waiting(t, deeper)
	w.hears(referral([]api.RR{n}, host("ns.c.com.", 6)), "com.", came(0, 2, n), came(0, 1, host("ns.c.com.", 6)))
	w.asks(6, "c.com.", deeper)
	w.hears(referral([]api.RR{ns("b.c.com.", "ns.net.")}), "c.com.", came(0, 2, ns("b.c.com.", "ns.net.")))
	w = waiting(t, deeper)
	w.hears(referral([]api.RR{n}), "com.", came(0, 2, n))
}

// P20.3: the first set of TypeNS whose owner is not the zone's, and within which the name is: at the name, above it, below the zone; no other one.
func TestReferralOwners(t *testing.T) {
	to := func(owner string) api.RR { return ns(owner, "ns.c.com.") }
	glue := host("ns.c.com.", 6)
	for _, owner := range []string{"a.b.c.com.", "b.c.com.", "c.com."} {
		want := []api.Set{came(0, 2, to(owner)), came(0, 1, glue)}
		for _, l := range [][]api.RR{
			{to(owner)},
			{to(owner), to("c.com."), to("b.c.com."), to("a.b.c.com.")},
			{to("com."), to(owner)},
			{to("COM."), to("x.a.b.c.com."), to("b.com."), to("net."), to("."), soa("c.com.", 60), text("c.com.", "x"), to(owner), to("com.")},
			{to(owner), soa("com.", 60)},
		} {
			w := waiting(t, deeper)
			w.hears(referral(l, glue), "com.", want...)
		}
		w := waiting(t, deeper)
		w.hears(referral([]api.RR{great(to(owner))}, glue), "com.", came(0, 2, great(to(owner))), came(0, 1, glue))
	}
	for _, l := range [][]api.RR{nil, {to("com.")}, {to("cOm.")}, {to(".")}, {to("net.")}, {to("x.a.b.c.com.")}, {to("b.com.")}, {to("cc.com.")}, {soa("c.com.", 60)}, {record("c.com.", api.TypeNS, "")}} {
		w := waiting(t, deeper)
		w.hearsNothing(referral(l, glue, to("c.com.")))
	}
}

// P20.3: of all of one owner's servers there is one set.
func TestReferralSet(t *testing.T) {
	w := waiting(t, deeper)
	w.hears(referral([]api.RR{ns("c.com.", "z.com."), ns("b.c.com.", "y.com."), lasting(100, ns("c.com.", "b.net.")), ns("C.com.", "z.com.")}, host("y.com.", 5), host("z.com.", 6)), "com.", came(0, 2, lasting(100, ns("c.com.", "b.net.")), ns("c.com.", "z.com.")), came(0, 1, host("z.com.", 6)))
}

// P20.3: addresses of the servers' names alone, in the order of their sets, each of which has all of a name.
func TestReferralGlue(t *testing.T) {
	l := []api.RR{ns("c.com.", "x.com."), ns("c.com.", "y.com."), ns("c.com.", "z.com."), ns("c.com.", "o.net.")}
	w := waiting(t, deeper)
	w.hears(referral(l,
		host("z.com.", 9), host("other.com.", 1), host("o.net.", 2), great(host("x.com.", 7)), host("z.com.", 8),
		record("y.com.", api.TypeAAAA, "0123456789abcdef"), text("y.com.", "x"), cname("y.com.", "w.com."), host("a.y.com.", 3), host("com.", 4), classed(3, host("y.com.", 5)), lasting(50, host("X.com.", 6)),
	), "com.", came(0, 2, l[3], l[0], l[1], l[2]), came(0, 1, host("z.com.", 8), host("z.com.", 9)), came(0, 1, lasting(50, great(host("x.com.", 6))), host("x.com.", 7)))
	// Addresses in other sections, and of servers that are not accepted, are none.
	w = waiting(t, deeper)
	w.hears(referral([]api.RR{l[0], host("x.com.", 6), ns("b.c.com.", "v.com.")}, host("v.com.", 7)), "com.", came(0, 2, l[0]))
}

// P20.3: a message that came with answers, of any kind, with another Code, or with AA, refers to nothing.
func TestReferralNot(t *testing.T) {
	m := referral([]api.RR{ns("c.com.", "ns.c.com.")}, host("ns.c.com.", 6))
	for _, r := range []api.RR{text("a.b.c.com.", "x"), cname("a.b.c.com.", "net."), text("net.", "x"), classed(3, text("net.", "x")), {}, record("a.", 1, "12345")} {
		w := waiting(t, deeper)
		w.hearsNothing(changed(m, func(m *api.Message) { m.Answers = []api.RR{r} }))
	}
	w := waiting(t, deeper)
	w.hearsNothing(changed(m, func(m *api.Message) { m.Code = api.CodeName }))
	w = waiting(t, deeper)
	w.hearsNothing(changed(m, func(m *api.Message) { m.AA = true }))
	w = waiting(t, deeper)
	w.hears(changed(m, func(m *api.Message) { m.Answers = []api.RR{} }), "com.", came(0, 2, ns("c.com.", "ns.c.com.")), came(0, 1, host("ns.c.com.", 6)))
	// Without AA an answer is none, and an SOA denies nothing.
	w = waiting(t, deeper)
	w.hearsNothing(referral([]api.RR{soa("com.", 60)}))
	w = waiting(t, deeper)
	w.hearsNothing(changed(answer(text("a.b.c.com.", "x")), func(m *api.Message) { m.AA = false }))
}

// P20.3: servers that are not fresh are not accepted, nor are others in their place; each set of addresses is looked at by itself.
func TestReferralFresh(t *testing.T) {
	n, glue := ns("c.com.", "x.com."), host("x.com.", 6)
	w := waiting(t, deeper)
	w.hears(referral([]api.RR{lasting(0, n), ns("b.c.com.", "y.com.")}, glue, host("y.com.", 7)), "com.", came(0, 1, glue))
	w = waiting(t, deeper)
	w.hears(referral([]api.RR{n, ns("c.com.", "y.com.")}, lasting(0, glue), host("y.com.", 7)), "com.", came(0, 2, n, ns("c.com.", "y.com.")), came(0, 1, host("y.com.", 7)))
	w = waiting(t, deeper)
	w.hears(referral([]api.RR{n}, glue, lasting(1<<31, host("x.com.", 7))), "com.", came(0, 2, n))
}

// P20.3: servers, and addresses, whose set can't be kept count as if they had not come.
func TestReferralCant(t *testing.T) {
	var l, glue []api.RR
	for i := range 500 {
		l = append(l, ns("c.com.", fmt.Sprintf("ns%d.com.", i)))
	}
	for i := range 1000 {
		glue = append(glue, record("y.com.", 1, string([]byte{0, 1, byte(i >> 8), byte(i)})))
	}
	w := waiting(t, deeper)
	w.hearsNothing(referral(l, host("ns1.com.", 6)))
	n := []api.RR{ns("b.c.com.", "x.com."), ns("b.c.com.", "y.com.")}
	w = waiting(t, deeper)
	w.hears(referral(append(l, n...), append(glue, host("ns1.com.", 6), host("x.com.", 7))...), "com.", came(0, 2, n...), came(0, 1, host("x.com.", 7)))
}
