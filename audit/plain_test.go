package audit_test

import (
	"bytes"
	"math/big"
	"slices"

	"cicerone/api"
	"cicerone/name"
	"cicerone/rdata"
	"cicerone/zone"
)

// plainPaired is a second Paired, by the chapter's words: it goes through all queries ahead, and notes which of them have a reply.
func plainPaired(l []api.Event) bool {
	has := make([]bool, len(l))
	for i, e := range l {
		if !e.Reply {
			continue
		}
		if !e.Message.Response || !e.Message.RA {
			return false
		}
		at := -1
		for j, q := range l[:i] {
			x, y := q.Message, e.Message
			if at < 0 && !q.Reply && !has[j] && q.Stream == e.Stream && x.ID == y.ID && x.Opcode == y.Opcode && x.RD == y.RD && len(x.Questions) == 1 && len(y.Questions) == 1 && x.Questions[0] == y.Questions[0] {
				at = j
			}
		}
		if at < 0 {
			return false
		}
		has[at] = true
	}
	return true
}

// plainBacked is a second Backed: it holds each record against each accept, with numbers that have no end.
func plainBacked(l []api.Event, a []api.Accept) bool {
	for _, e := range l {
		for _, r := range slices.Concat(e.Message.Answers, e.Message.Authority) {
			if e.Reply && !slices.ContainsFunc(a, func(a api.Accept) bool { return plainBacks(e, r, a) }) {
				return false
			}
		}
	}
	return true
}

func plainBacks(e api.Event, r api.RR, a api.Accept) bool {
	n, ofType := a.Set.Name, a.Set.Type
	if a.Set.Kind != api.SetData {
		n, ofType = a.Set.Zone, api.TypeSOA
	}
	if !name.Same(n, r.Name) || ofType != r.Type || a.Set.Class != r.Class || !name.Within(a.Set.Name, a.Zone) {
		return false
	}
	if !slices.ContainsFunc(a.Set.Datas, func(data []byte) bool { return bytes.Equal(data, r.Data) }) {
		return false
	}
	number := func(n int) *big.Int { return big.NewInt(int64(n)) }
	end := new(big.Int).Add(number(a.At), number(a.TTL))
	return a.At <= e.At && number(e.At).Cmp(end) < 0 && number(r.TTL).Cmp(end.Sub(end, number(e.At))) <= 0
}

// plainTrue is a second True: it takes the runs off one by one, and holds each record's names against each other's.
func plainTrue(t api.Tree, m api.Message) bool {
	if len(m.Questions) != 1 || m.Code != api.CodeOK && m.Code != api.CodeName {
		return false
	}
	truth, ok := zone.Truth(t, m.Questions[0])
	if !ok || truth.Code != m.Code || len(truth.Answers) != len(m.Answers) {
		return false
	}
	for x, y := m.Answers, truth.Answers; len(x) > 0; {
		i, j := plainRun(x), plainRun(y)
		if i == 0 || i != j || !name.Same(x[0].Name, y[0].Name) || x[0].Type != y[0].Type || !plainHas(x[:i], y[:i]) || !plainHas(y[:i], x[:i]) {
			return false
		}
		x, y = x[i:], y[i:]
	}
	return true
}

// plainRun is how many records stand in the first run.
func plainRun(l []api.RR) int {
	n := 0
	for n < len(l) && name.Same(l[n].Name, l[0].Name) && l[n].Type == l[0].Type {
		n++
	}
	return n
}

// plainHas tells whether each record of a run has one in another run that says the same.
func plainHas(x, y []api.RR) bool {
	return !slices.ContainsFunc(x, func(r api.RR) bool {
		return !slices.ContainsFunc(y, func(s api.RR) bool { return r.Class == s.Class && plainSame(r, s) })
	})
}

// plainSame tells whether data are the same but for letters in names.
func plainSame(r, s api.RR) bool {
	a, b := rdata.Names(r.Type, r.Data), rdata.Names(s.Type, s.Data)
	if len(a) == 0 || !slices.EqualFunc(a, b, name.Same) {
		return bytes.Equal(r.Data, s.Data)
	}
	// Names of the same length stand at the same place, with numbers ahead of them or behind.
	ahead := 0
	if r.Type == api.TypeMX {
		ahead = 2
	}
	size := 0
	for _, n := range a {
		size += len(n)
	}
	return bytes.Equal(r.Data[:ahead], s.Data[:ahead]) && bytes.Equal(r.Data[ahead+size:], s.Data[ahead+size:])
}
