package cover

import "handloom/api"

func takesAll(p *api.Pat) bool { return p.Kind == api.PtAny || p.Kind == api.PtVar }

// meets tells whether a pattern takes something of a space, of what is at most so deep.
func meets(s space, p *api.Pat, depth int) bool {
	if depth < 1 {
		return false
	}
	if takesAll(p) {
		return true
	}
	switch s := s.(type) {
	case number:
		return p.Kind == api.PtInt && p.Num == int64(s)
	case record:
		return s.fits(p) && meetAll(s.kids, p.Kids, depth-1)
	case choice:
		at := s.which(p)
		return at >= 0 && !s.but.has(at) && meetAll(s.records[at].kids, p.Kids, depth-1)
	}
	return false
}

func meetAll(kids []space, pats []api.Pat, depth int) bool {
	for at, kid := range kids {
		if !meets(kid, &pats[at], depth) {
			return false
		}
	}
	return true
}

// within is what a pattern takes of all values of a type that are at most so deep; false: it takes none of them.
func within(s space, p *api.Pat, depth int) (space, bool) {
	if depth < 1 || takesAll(p) {
		return s, depth > 0
	}
	switch s := s.(type) {
	case numbers:
		return number(p.Num), p.Kind == api.PtInt
	case choice:
		at := s.which(p)
		if at < 0 {
			return nil, false
		}
		r := s.records[at]
		for at := range r.kids {
			kid, ok := within(r.kids[at], &p.Kids[at], depth-1)
			if !ok {
				return nil, false
			}
			r = r.with(at, kid)
		}
		return r, true
	}
	return nil, false
}

// split is what is left of a space when a pattern that it meets is taken away: spaces that have nothing in common. Each cut lays open what the pattern asks further in.
func split(s space, p *api.Pat, others []api.Pat) []space {
	var left []space
	for {
		places := open(nil, nil, s, p)
		if len(places) == 0 {
			return left
		}
		for _, at := range busiest(places, s, others) {
			taken, more := cut(s, at, p)
			left = append(left, more...)
			s = taken
		}
	}
}

// cut parts a space in two at a place: what is there as a pattern asks, and what is not.
func cut(s space, at place, p *api.Pat) (taken space, left []space) {
	switch s := s.(type) {
	case choice:
		it := s.which(p)
		return s.records[it], s.without(it)
	case record:
		kid, others := cut(s.kids[at[0]], at[1:], &p.Kids[at[0]])
		for _, other := range others {
			left = append(left, s.with(at[0], other))
		}
		return s.with(at[0], kid), left
	}
	return s, nil
}
