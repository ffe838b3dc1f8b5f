package order

import (
	"cmp"

	"quill/api"
	"quill/spot"
)

// Check tells whether elements may be.
func Check(l []api.Elem) api.Errno {
	if len(l) > api.MaxOps {
		return api.ErrForm
	}
	var all ids
	for _, x := range l {
		if !mayID(x.ID) || !spot.IsRune(x.Rune) || !all.add(x.ID) {
			return api.ErrForm
		}
	}
	return api.OK
}

// May tells whether an op may be.
func May(o api.Op) api.Errno {
	ok := mayID(o.ID) && within(o.Site, 1, api.MaxSites) && within(o.N, 1, api.MaxOps) && len(o.Seen) == api.MaxSites
	for _, n := range o.Seen {
		ok = ok && within(n, 0, api.MaxOps)
	}
	switch o.Kind {
	case api.OpInsert:
		ok = ok && spot.IsRune(o.Rune) && (o.After == api.ID{} || mayID(o.After) && less(o.After, o.ID))
	case api.OpDelete:
		ok = ok && o.Rune == 0 && o.After == api.ID{}
	default:
		ok = false
	}
	if !ok {
		return api.ErrForm
	}
	return api.OK
}

func within(n, low, high int) bool { return n >= low && n <= high }

func mayID(id api.ID) bool {
	return within(id.Time, 1, api.MaxTime) && within(id.Site, 0, api.MaxSites)
}

func compare(a, b api.ID) int {
	if a.Time != b.Time {
		return cmp.Compare(a.Time, b.Time)
	}
	return cmp.Compare(a.Site, b.Site)
}

func less(a, b api.ID) bool { return compare(a, b) < 0 }

// ids is a set of IDs that may be.
type ids struct {
	bits [((api.MaxTime+1)*(api.MaxSites+1) + 63) / 64]uint64
}

func (x *ids) at(id api.ID) (word int, bit uint64) {
	i := id.Time*(api.MaxSites+1) + id.Site
	return i / 64, 1 << (i % 64)
}

func (x *ids) has(id api.ID) bool {
	word, bit := x.at(id)
	return x.bits[word]&bit != 0
}

// add tells whether the ID is new.
func (x *ids) add(id api.ID) bool {
	if x.has(id) {
		return false
	}
	word, bit := x.at(id)
	x.bits[word] |= bit
	return true
}
