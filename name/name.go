// Package name is layer 1: see ../../shared/doc/01-name.md.
package name

import (
	"cmp"
	"strings"

	"cicerone/api"
)

// root is the name without labels.
const root = "\x00"

// places tells where each label of a name begins, and behind them where the root's byte stands. A label takes two bytes at least, so there is room for all; a name's places are below MaxName, so each fits in a byte.
type places struct {
	at    [api.MaxName/2 + 1]uint8
	count int
}

// label is the bytes of one of the name's labels.
func (p places) label(n string, i int) string {
	return n[int(p.at[i])+1 : p.at[i+1]]
}

// split takes the labels off one by one, and tells whether the bytes are a name.
func split(n string) (places, bool) {
	var p places
	if len(n) > api.MaxName {
		return p, false
	}
	at := 0
labels:
	for at < len(n) {
		size := int(n[at])
		p.at[p.count] = uint8(at)
		switch {
		case size == 0:
			break labels
		case size > api.MaxLabel:
			return p, false
		}
		p.count++
		at += 1 + size
	}
	return p, at == len(n)-1
}

// Can tells whether bytes are a name.
func Can(n string) bool {
	_, ok := split(n)
	return ok
}

// Lower is a name with small letters alone.
func Lower(n string) string {
	if !Can(n) {
		return ""
	}
	low := []byte(n)
	for i, b := range low {
		// The lengths of labels are below all letters, so they stay as they are.
		if 'A' <= b && b <= 'Z' {
			low[i] = b - 'A' + 'a'
		}
	}
	return string(low)
}

// Same tells whether two names are the same, whatever their letters' size.
func Same(a, b string) bool {
	low := Lower(a)
	return low != "" && low == Lower(b)
}

// Compare puts names in order, label by label from the last one on.
func Compare(a, b string) int {
	a, b = Lower(a), Lower(b)
	p, ok := split(a)
	q, also := split(b)
	if !ok || !also {
		return 0
	}
	for i := 1; i <= min(p.count, q.count); i++ {
		if c := cmp.Compare(p.label(a, p.count-i), q.label(b, q.count-i)); c != 0 {
			return c
		}
	}
	return cmp.Compare(p.count, q.count)
}

// Count is how many labels a name has.
func Count(n string) int {
	p, ok := split(n)
	if !ok {
		return 0
	}
	return p.count
}

// Parent is the name without its first label; the root has none.
func Parent(n string) (string, bool) {
	labels := Count(n)
	if labels == 0 {
		return "", false
	}
	return Tail(n, labels-1), true
}

// Tail is the name of the last labels.
func Tail(n string, labels int) string {
	p, ok := split(n)
	if !ok {
		return ""
	}
	first := p.count - max(0, min(labels, p.count))
	// A copy, as an answer is new memory.
	return strings.Clone(n[p.at[first]:])
}

// Within tells whether a name is a zone's, or lies below it.
func Within(n, zone string) bool {
	return Same(Tail(n, Count(zone)), zone)
}
