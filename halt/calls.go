package halt

import "handloom/api"

// count is how many calls there are, and how many on one way.
type count struct{ all, way int }

// then is both, one behind the other.
func (c count) then(next count) count { return count{c.all + next.all, c.way + next.way} }

// or is both, of which a way goes through one: the one that has more.
func (c count) or(other count) count { return count{c.all + other.all, max(c.way, other.way)} }

// callsOf counts the calls of a function by its name.
type callsOf string

func (name callsOf) in(e api.Expr) count {
	var c, ways count
	if e.Kind == api.ExCall && e.Name == string(name) {
		c = count{1, 1}
	}
	for at, kid := range e.Kids {
		if e.Kind == api.ExIf && at > 0 {
			ways = ways.or(name.in(kid))
		} else {
			c = c.then(name.in(kid))
		}
	}
	for _, arm := range e.Arms {
		body := name.in(arm.Body)
		if e.Kind != api.ExMatch {
			// nothing else goes on with an arm
			body.way = 0
		}
		ways = ways.or(body)
	}
	return c.then(ways)
}
