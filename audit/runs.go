package audit

import (
	"bytes"
	"maps"

	"cicerone/api"
	"cicerone/name"
)

// numbersOfSOA is how many bytes of numbers stand behind the names in data of TypeSOA, numbersOfMX how many ahead of the name in data of TypeMX.
const (
	numbersOfSOA = 20
	numbersOfMX  = 2
)

// alike tells whether two records have one name and type. One whose name is none is like no other, so no run with it is the same as another.
func alike(a, b api.RR) bool { return a.Type == b.Type && name.Same(a.Name, b.Name) }

// runs is records, those together that are alike and follow one another.
func runs(l []api.RR) [][]api.RR {
	var all [][]api.RR
	for i, r := range l {
		if i == 0 || !alike(l[i-1], r) {
			all = append(all, nil)
		}
		last := len(all) - 1
		all[last] = append(all[last], r)
	}
	return all
}

// sameRun tells whether two runs say the same.
func sameRun(a, b []api.RR) bool {
	return len(a) == len(b) && alike(a[0], b[0]) && maps.Equal(values(a), values(b))
}

// value is what a record says: its class and data, with small letters in names.
type value struct {
	class int
	data  string
}

// values is a run's, as a set.
func values(run []api.RR) map[value]struct{} {
	set := map[value]struct{}{}
	for _, r := range run {
		set[value{r.Class, smallData(r)}] = struct{}{}
	}
	return set
}

// smallData is a record's data with small letters where data of its type have names. The lengths of labels are below all letters, so they stay as they are, and what is no name becomes none.
func smallData(r api.RR) string {
	low := bytes.Clone(r.Data)
	from, to := namesIn(r.Type, len(low))
	for i := from; i < to; i++ {
		if c := low[i]; 'A' <= c && c <= 'Z' {
			low[i] = c - 'A' + 'a'
		}
	}
	return string(low)
}

// namesIn tells from where on, and up to where, so many bytes of data of a type are names.
func namesIn(t, size int) (int, int) {
	switch t {
	case api.TypeNS, api.TypeCNAME, api.TypePTR:
		return 0, size
	case api.TypeMX:
		return numbersOfMX, size
	case api.TypeSOA:
		return 0, size - numbersOfSOA
	}
	return 0, 0
}
