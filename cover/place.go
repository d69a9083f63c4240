package cover

import (
	"cmp"
	"slices"

	"handloom/api"
)

// place is where a part stands: which Kid, of that which Kid, and so on.
type place []int

// open is places, and behind them those at which a pattern asks what a space that it meets leaves open.
func open(l []place, at place, s space, p *api.Pat) []place {
	if takesAll(p) {
		return l
	}
	switch s := s.(type) {
	case choice:
		l = append(l, slices.Clone(at))
	case record:
		for kid := range s.kids {
			l = open(l, append(at, kid), s.kids[kid], &p.Kids[kid])
		}
	}
	return l
}

// asksAt tells whether a pattern asks something at a place of a space that it meets.
func asksAt(p *api.Pat, at place) bool {
	for _, kid := range at {
		if takesAll(p) {
			return false
		}
		p = &p.Kids[kid]
	}
	return !takesAll(p)
}

// busy is a place, and how many patterns ask something there.
type busy struct {
	place
	count int
}

// busiest is places of a space, those ahead at which most patterns ask something: what is cut there first falls into spaces of which each is met by few of them.
func busiest(l []place, s space, pats []api.Pat) []place {
	if len(l) < 2 {
		return l
	}
	met := meeting(s, pats)
	all := each(l, func(at place) busy {
		b := busy{place: at}
		for k := range met {
			if asksAt(&met[k], at) {
				b.count++
			}
		}
		return b
	})
	slices.SortStableFunc(all, func(a, b busy) int { return cmp.Compare(b.count, a.count) })
	return each(all, func(b busy) place { return b.place })
}
