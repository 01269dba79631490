package store

import (
	"cmp"

	"cicerone/api"
	"cicerone/entry"
	"cicerone/name"
	"cicerone/rrset"
)

// key tells sets apart: their name in small letters, type and class.
type key struct {
	name          string
	ofType, class int
}

// keyOf is a set's.
func keyOf(n string, t, class int) key { return key{name.Lower(n), t, class} }

// ofNothing is the key of the set that says that there is no such name.
func (k key) ofNothing() key { return key{k.name, 0, k.class} }

// compare puts keys in order.
func (k key) compare(other key) int {
	return cmp.Or(name.Compare(k.name, other.name), cmp.Compare(k.ofType, other.ofType), cmp.Compare(k.class, other.class))
}

// held is a set that is there: the entry that puts it, as it is written, and what of it is asked often.
type held struct {
	key           key
	rec           []byte
	rank, expires int
}

// newHeld is a set's, with the bytes of its entry.
func newHeld(x api.Set, rec []byte) *held {
	return &held{key: keyOf(x.Name, x.Type, x.Class), rec: rec, rank: x.Rank, expires: x.Expires}
}

// set is the set anew, so that no answer shares anything with another one.
func (h *held) set() api.Set {
	x, _ := entry.Decode(h.rec)
	return x.Set
}

// fresh tells whether the set still counts.
func (h *held) fresh(now int) bool { return rrset.Fresh(api.Set{Expires: h.expires}, now) }
