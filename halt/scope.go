package halt

import "handloom/api"

// standing is how a name stands to a function's parameters.
type standing struct {
	to     string // a parameter's name
	is     bool   // it is that parameter, or lesser
	lesser bool
}

// scope is names, each with how it stands.
type scope map[string]standing

// givenBy is the names that a pattern gives: those within a part that has parts stand as inner says.
func givenBy(p api.Pat, inner standing) scope {
	s := scope{}
	s.add(p, standing{}, inner)
	return s
}

func (s scope) add(p api.Pat, own, inner standing) {
	switch p.Kind {
	case api.PtVar:
		// a name that stands there several times is lesser by one of them
		if !s[p.Name].lesser {
			s[p.Name] = own
		}
	case api.PtCon, api.PtTuple:
		own = inner
	}
	for _, kid := range p.Kids {
		s.add(kid, own, inner)
	}
}
