package eval

import (
	"slices"

	"handloom/api"
)

// spot is where an expression is gone through: at how many slots, and which names are given there, by each part around it that gives some, the inner ones behind.
type spot struct {
	slots int
	names [][]api.Bind
}

// spotOf is where a body begins, which knows just its params.
func spotOf(slots int, params []api.Param, args []api.Value) spot {
	var given []api.Bind
	for at, p := range params {
		given = append(given, api.Bind{Name: p.Name, Value: args[at]})
	}
	return spot{slots: slots}.with(given...)
}

// on is so many slots further on.
func (s spot) on(slots int) spot {
	s.slots += slots
	return s
}

// with is where names more are given. The list is cut back to what is in it, so that nothing is put where another part, which has the same list, puts its own.
func (s spot) with(given ...api.Bind) spot {
	count := len(s.names)
	s.names = append(s.names[:count:count], given)
	return s
}

// find is the value that a name has: what is given further in counts.
func (s spot) find(name string) api.Value {
	for _, given := range slices.Backward(s.names) {
		for _, b := range given {
			if b.Name == name {
				return b.Value
			}
		}
	}
	return api.Value{}
}
