package rdata

import (
	"cicerone/api"
	"cicerone/name"
)

// An SOA's numbers: how many there are, how many bytes each has, and the greatest one.
const (
	numbers     = 5
	numberBytes = 4
	mostNumber  = 1<<32 - 1
)

// SOA is what the data of an SOA say.
func SOA(data []byte) (api.SOA, bool) {
	names := Names(api.TypeSOA, data)
	if len(names) == 0 {
		return api.SOA{}, false
	}
	var n [numbers]int
	first := len(data) - numberBytes*numbers
	for i := range n {
		at := first + numberBytes*i
		for _, b := range data[at : at+numberBytes] {
			n[i] = n[i]<<8 | int(b)
		}
	}
	return api.SOA{
		MName:   names[0],
		RName:   names[1],
		Serial:  n[0],
		Refresh: n[1],
		Retry:   n[2],
		Expire:  n[3],
		Minimum: n[4],
	}, true
}

// Make is the data of an SOA.
func Make(s api.SOA) ([]byte, api.Errno) {
	if !name.Can(s.MName) || !name.Can(s.RName) {
		return nil, api.ErrArg
	}
	data := []byte(s.MName + s.RName)
	for _, n := range [numbers]int{s.Serial, s.Refresh, s.Retry, s.Expire, s.Minimum} {
		if n < 0 || n > mostNumber {
			return nil, api.ErrArg
		}
		data = append(data, byte(n>>24), byte(n>>16), byte(n>>8), byte(n))
	}
	return data, api.OK
}
