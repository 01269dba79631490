package store

import (
	"slices"
	"sort"

	"cicerone/api"
	"cicerone/entry"
)

// whenAllAreFresh is a time at which all sets are fresh: each was so when it came, so it expires behind 0.
const whenAllAreFresh = 0

// place is where in order a key's set stands, or would stand, and whether it is there.
func (s *Store) place(k key) (int, bool) {
	return slices.BinarySearchFunc(s.order, k, func(h *held, k key) int { return h.key.compare(k) })
}

// add has a set be there, in the place of one of its key.
func (s *Store) add(h *held) {
	at, there := s.place(h.key)
	if there {
		s.bytes -= len(s.order[at].rec)
		s.order[at] = h
	} else {
		s.order = slices.Insert(s.order, at, h)
	}
	s.sets[h.key] = h
	s.bytes += len(h.rec)
}

// remove has a set that is there be there no more.
func (s *Store) remove(h *held) {
	at, _ := s.place(h.key)
	s.order = slices.Delete(s.order, at, at+1)
	s.forget(h)
}

// forget is what is done for a set that order has no more.
func (s *Store) forget(h *held) {
	delete(s.sets, h.key)
	s.bytes -= len(h.rec)
}

// write puts entries behind what the log has. If it does not take one, all that is fresh is written anew, which has what they come to; if not even that can be done, nothing is written any more.
func (s *Store) write(now int, l ...api.Entry) {
	if s.memory {
		return
	}
	if !s.writeEach(l) && s.writeAll(now) != api.OK {
		s.memory = true
		return
	}
	if s.log.Bytes() > 2*(s.most+api.Segment) {
		s.writeAll(now)
	}
}

// writeEach puts entries behind what the log has, and tells whether it took them all.
func (s *Store) writeEach(l []api.Entry) bool {
	for _, x := range l {
		rec, _ := entry.Encode(x)
		if s.log.Append(rec) != api.OK {
			return false
		}
	}
	return true
}

// writeAll has all sets that are fresh stand in the log, and nothing else.
func (s *Store) writeAll(now int) api.Errno {
	var recs [][]byte
	for _, h := range s.order {
		if h.fresh(now) {
			recs = append(recs, h.rec)
		}
	}
	return s.log.Replace(recs)
}

// pushOut has all sets fit again: first what is not fresh goes, then what expires first, but never own.
func (s *Store) pushOut(now int, own *held) {
	if !s.fits() {
		s.thin(func(h *held) bool { return !h.fresh(now) })
	}
	if !s.fits() {
		// All that expire sooner must go whole; of those that expire then no more than must, in order.
		last := s.lastToGo(own)
		s.thin(func(h *held) bool { return h != own && h.expires < last })
		s.thin(func(h *held) bool { return h != own && h.expires == last })
	}
}

// fits tells whether the sets have no more bytes than they may.
func (s *Store) fits() bool { return s.bytes <= s.most }

// thin takes such sets away, in order, until all that are left fit.
func (s *Store) thin(such func(h *held) bool) {
	s.order = slices.DeleteFunc(s.order, func(h *held) bool {
		goes := !s.fits() && such(h)
		if goes {
			s.forget(h)
		}
		return goes
	})
}

// lastToGo is when the last set expires that must go, if those go first that expire first, but never own.
func (s *Store) lastToGo(own *held) int {
	return sort.Search(api.MaxTime, func(time int) bool {
		left := s.bytes
		for _, h := range s.order {
			if h != own && h.expires <= time {
				left -= len(h.rec)
			}
		}
		return left <= s.most
	})
}
