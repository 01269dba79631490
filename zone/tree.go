package zone

import (
	"slices"

	"cicerone/api"
	"cicerone/name"
	"cicerone/rdata"
)

// How much a tree has at most, and the greatest numbers in it.
const (
	mostZones   = 20
	mostServers = 40
	mostRecords = 400
	mostAddr    = 1<<32 - 1
	mostTTL     = 1<<31 - 1
)

// lay lays a tree's zones out, in their order, and tells whether the tree may be; nothing, if it may not.
func lay(t api.Tree) ([]area, bool) {
	// Sizes come first, so that no time is spent on what is too long.
	if !canSizes(t) || !canServers(t) || t.Zones[0].Origin != root {
		return nil, false
	}
	var areas []area
	for _, z := range t.Zones {
		if !canRecords(z) {
			return nil, false
		}
		a := newArea(z)
		if slices.ContainsFunc(areas, func(other area) bool { return other.origin == a.origin }) {
			return nil, false
		}
		areas = append(areas, a)
	}
	for i, a := range areas {
		if !a.canOrigin() || !a.canAliases() || !a.canCuts() || !canParent(areas, i) || !canBelow(areas, i) {
			return nil, false
		}
	}
	return areas, true
}

// canSizes tells whether a tree has neither too few nor too many zones, servers and records.
func canSizes(t api.Tree) bool {
	if len(t.Zones) < 1 || len(t.Zones) > mostZones || len(t.Servers) > mostServers {
		return false
	}
	records := 0
	for _, z := range t.Zones {
		records += len(z.RRs)
	}
	return records <= mostRecords
}

// canServers tells whether a tree's servers may be.
func canServers(t api.Tree) bool {
	missing := func(zone int) bool { return zone < 0 || zone >= len(t.Zones) }
	for i, s := range t.Servers {
		same := func(other api.Server) bool { return other.Addr == s.Addr }
		if s.Addr < 0 || s.Addr > mostAddr || slices.ContainsFunc(t.Servers[:i], same) || slices.ContainsFunc(s.Zones, missing) {
			return false
		}
	}
	return true
}

// canRecords tells whether each record of a zone may be one, whatever the others are.
func canRecords(z api.Zone) bool {
	for _, r := range z.RRs {
		if !name.Within(r.Name, z.Origin) || r.Class != api.ClassIN || r.TTL < 0 || r.TTL > mostTTL {
			return false
		}
		// Type 0 is none, though it may have data.
		if r.Type < 1 || !rdata.Can(r.Type, r.Data) {
			return false
		}
	}
	return true
}

// canOrigin tells whether a zone has what it must have at its origin, and there alone.
func (a area) canOrigin() bool {
	for i, r := range a.rrs {
		if r.Type == api.TypeSOA && a.names[i] != a.origin {
			return false
		}
	}
	return a.counts[spot{a.origin, api.TypeSOA}] == 1 && a.counts[spot{a.origin, api.TypeNS}] >= 1
}

// canAliases tells whether each name with an alias has that one record.
func (a area) canAliases() bool {
	for i, r := range a.rrs {
		aliases := a.counts[spot{a.names[i], api.TypeCNAME}]
		if aliases > 1 || aliases == 1 && r.Type != api.TypeCNAME {
			return false
		}
	}
	return true
}

// canCuts tells whether a zone has at its cuts, and below them, only what leads to other servers.
func (a area) canCuts() bool {
	for i, r := range a.rrs {
		cut, ok := a.cut(a.names[i])
		if ok && r.Type != api.TypeA && (r.Type != api.TypeNS || a.names[i] != cut) {
			return false
		}
	}
	return true
}

// parent is the place of the nearest area above one of them; -1 above the root.
func parent(areas []area, i int) int {
	up, ok := name.Parent(areas[i].origin)
	if !ok {
		return -1
	}
	return nearest(areas, up)
}

// canParent tells whether an area's parent has a cut at its origin, with its own servers.
func canParent(areas []area, i int) bool {
	above := parent(areas, i)
	if above < 0 {
		return true
	}
	own, told := areas[i].servers(areas[i].origin), areas[above].servers(areas[i].origin)
	slices.Sort(own)
	slices.Sort(told)
	return slices.Equal(own, told)
}

// canBelow tells whether each of an area's cuts is the origin of one whose parent it is.
func canBelow(areas []area, i int) bool {
	for _, n := range areas[i].names {
		if !areas[i].isCut(n) {
			continue
		}
		below := nearest(areas, n)
		if areas[below].origin != n || parent(areas, below) != i {
			return false
		}
	}
	return true
}
