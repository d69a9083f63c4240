package cover

import (
	"cmp"
	"slices"

	"handloom/api"
)

// meeting is the patterns that take something of a space.
func meeting(s space, pats []api.Pat) []api.Pat {
	var l []api.Pat
	for at := range pats {
		if meets(s, &pats[at], api.MaxDeep) {
			l = append(l, pats[at])
		}
	}
	return l
}

// asks is how many things a pattern asks of what a space that it meets leaves open.
func asks(s space, p *api.Pat) int {
	if takesAll(p) {
		return 0
	}
	count := 0
	switch s := s.(type) {
	case record:
		for at, kid := range s.kids {
			count += asks(kid, &p.Kids[at])
		}
	case choice:
		count = asks(s.records[s.which(p)], p)
		if len(s.records) > 1 {
			count++
		}
	}
	return count
}

// rest is a space, and the patterns that are still to be taken away from it.
type rest struct {
	space
	pats []api.Pat
}

// next is the place of the first pattern that takes something; -1: there is none.
func (r rest) next() int {
	for at := range r.pats {
		if meets(r.space, &r.pats[at], api.MaxDeep) {
			return at
		}
	}
	return -1
}

// untaken is a value of a space that no pattern takes; false: there is none. Those that ask least are taken away first, as they mostly take most; and what was left last is gone on with first, as one value is enough.
func untaken(s space, pats []api.Pat) (small, bool) {
	first := rest{s, meeting(s, pats)}
	slices.SortStableFunc(first.pats, func(a, b api.Pat) int { return cmp.Compare(asks(s, &a), asks(s, &b)) })
	left := []rest{first}
	for len(left) > 0 {
		last := left[len(left)-1]
		left = left[:len(left)-1]
		at := last.next()
		if at < 0 {
			if v, ok := last.least(api.MaxDeep); ok {
				return v, true
			}
			continue
		}
		behind := last.pats[at+1:]
		for _, s := range split(last.space, &last.pats[at], behind) {
			left = append(left, rest{s, behind})
		}
	}
	return small{}, false
}
