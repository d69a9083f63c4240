package check

import (
	"slices"

	"handloom/api"
)

// scope is names that are given at one place, with their types.
type scope map[string]number

// scopeOf is the names of a list: of two of one name the last one counts.
func (t *types) scopeOf(l []api.Param) scope {
	s := scope{}
	for _, p := range l {
		s[p.Name] = t.numberOf(p.Type)
	}
	return s
}

// names is the scopes that stand around an expression, the inner ones behind.
type names []scope

// find is a name's type: what is given further in counts.
func (l names) find(name string) (number, error) {
	for _, s := range slices.Backward(l) {
		if t, ok := s[name]; ok {
			return t, nil
		}
	}
	return 0, api.ErrName
}
