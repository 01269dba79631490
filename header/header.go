// Package header is layer 2: see ../../shared/doc/02-header.md.
package header

import (
	"cicerone/api"
)

// size is how many bytes a header has.
const size = 12

// most is the greatest number of two bytes.
const most = 0xffff

// The third and fourth byte are one number here: the Opcode's and the Code's place in it, and the bits that are 0.
const (
	opcodeShift = 11
	zeroBits    = 0x0070
	fourBits    = 0x000f
)

// masks are the bits of Response, AA, TC, RD and RA, in that order.
var masks = [5]int{0x8000, 0x0400, 0x0200, 0x0100, 0x0080}

// can tells whether all numbers of a header fit.
func can(h api.Header, counts [4]int) bool {
	for _, c := range counts {
		if c < 0 || c > most {
			return false
		}
	}
	return h.ID >= 0 && h.ID <= most &&
		h.Opcode >= 0 && h.Opcode <= fourBits &&
		h.Code >= 0 && h.Code <= fourBits
}

// Encode is a header's bytes, with the four counts.
func Encode(h api.Header, counts [4]int) ([]byte, api.Errno) {
	if !can(h, counts) {
		return nil, api.ErrArg
	}
	flags := h.Opcode<<opcodeShift | h.Code
	for i, set := range [5]bool{h.Response, h.AA, h.TC, h.RD, h.RA} {
		if set {
			flags |= masks[i]
		}
	}
	b := make([]byte, 0, size)
	b = appendNumber(b, h.ID)
	b = appendNumber(b, flags)
	for _, c := range counts {
		b = appendNumber(b, c)
	}
	return b, api.OK
}

// Decode is the header and the counts that bytes begin with.
func Decode(b []byte) (api.Header, [4]int, api.Errno) {
	var counts [4]int
	if len(b) < size {
		return api.Header{}, counts, api.ErrShort
	}
	flags := number(b, 2)
	if flags&zeroBits != 0 {
		return api.Header{}, counts, api.ErrBits
	}
	var set [5]bool
	for i, mask := range masks {
		set[i] = flags&mask != 0
	}
	for i := range counts {
		counts[i] = number(b, 4+2*i)
	}
	h := api.Header{
		ID:       number(b, 0),
		Response: set[0],
		Opcode:   flags >> opcodeShift & fourBits,
		AA:       set[1],
		TC:       set[2],
		RD:       set[3],
		RA:       set[4],
		Code:     flags & fourBits,
	}
	return h, counts, api.OK
}

// appendNumber writes a number in two bytes, the highest first.
func appendNumber(b []byte, n int) []byte {
	return append(b, byte(n>>8), byte(n))
}

// number is that of the two bytes at a place.
func number(b []byte, at int) int {
	return int(b[at])<<8 | int(b[at+1])
}
