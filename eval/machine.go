package eval

import (
	"slices"

	"handloom/api"
	"handloom/value"
)

// machine goes through expressions of a program in which nothing is wrong, and counts what that costs. It gives up by throwing an error.
type machine struct {
	funs []api.Fun
	fuel int // how many steps it may spend
	cost api.Cost
}

// begin counts that an expression is gone through. All of its steps are spent ahead: whoever has not enough for them does not come to its end.
func (m *machine) begin(e *api.Expr, slots int) {
	pats := patsOf(e)
	m.cost.Peak = max(m.cost.Peak, slots+2*(len(e.Kids)+pats)+1)
	m.cost.Steps += 4 + 2*len(e.Kids) + 8*(len(e.Arms)+pats)
	if e.Kind == api.ExFor {
		m.cost.Steps += 6 * int(e.Num)
	}
	if m.cost.Steps > m.fuel {
		panic(api.ErrFuel)
	}
}

// made counts the words of a value that is made; those of its Kids are counted already.
func (m *machine) made(v api.Value) api.Value {
	switch {
	case v.Kind == api.VaBytes:
		m.cost.Words += value.Size(v, api.MaxObj)
	case len(v.Kids) > 0:
		m.cost.Words += 2 + len(v.Kids)
	}
	return v
}

// worth is what an expression is worth.
func (m *machine) worth(e *api.Expr, s spot) api.Value {
	m.begin(e, s.slots)
	switch e.Kind {
	case api.ExBytes:
		return m.made(textOf(e.Bytes))
	case api.ExVar:
		return s.find(e.Name)
	case api.ExCon:
		return m.made(api.Value{Kind: api.VaCon, Name: e.Name, Kids: m.row(e.Kids, s)})
	case api.ExTuple:
		return m.made(api.Value{Kind: api.VaTuple, Kids: m.row(e.Kids, s)})
	case api.ExCall:
		return m.call(e, s)
	case api.ExLet:
		return m.let(e, s)
	case api.ExIf:
		return m.choice(e.Kids, s)
	case api.ExMatch:
		return m.match(e, s)
	case api.ExOp:
		return m.made(done(e.Num, m.row(e.Kids, s)))
	case api.ExFor:
		return m.loop(e, s)
	}
	return numberOf(e.Num)
}

// row is what Kids are worth, each at one slot more.
func (m *machine) row(kids []api.Expr, s spot) []api.Value {
	l := slices.Grow([]api.Value(nil), len(kids))
	for at := range kids {
		l = append(l, m.worth(&kids[at], s.on(at)))
	}
	return l
}

func (m *machine) call(e *api.Expr, s spot) api.Value {
	args := m.row(e.Kids, s)
	f := &m.funs[funAt(m.funs, e.Name)]
	return m.worth(&f.Body, spotOf(s.slots+2*len(args), f.Params, args))
}

func (m *machine) let(e *api.Expr, s spot) api.Value {
	v := m.worth(&e.Kids[0], s)
	return m.worth(&e.Kids[1], s.on(1).with(api.Bind{Name: e.Name, Value: v}))
}

func (m *machine) choice(kids []api.Expr, s spot) api.Value {
	way := &kids[2]
	if m.worth(&kids[0], s).Name == "True" {
		way = &kids[1]
	}
	return m.worth(way, s)
}

func (m *machine) loop(e *api.Expr, s spot) api.Value {
	v := m.worth(&e.Kids[0], s)
	for range e.Num {
		v = m.worth(&e.Kids[1], s.on(2).with(api.Bind{Name: e.Name, Value: v}))
	}
	return v
}

// match gives up if no arm takes the value: that can be of one that is more than MaxDeep deep, for which arms need not care.
func (m *machine) match(e *api.Expr, s spot) api.Value {
	v := m.worth(&e.Kids[0], s)
	for at := range e.Arms {
		if given, ok := taken(&e.Arms[at].Pat, v); ok {
			return m.worth(&e.Arms[at].Body, s.on(patsOf(e)+1).with(given...))
		}
	}
	panic(api.ErrCover)
}

// funAt is the place of a function by its name; -1: there is none.
func funAt(l []api.Fun, name string) int {
	return slices.IndexFunc(l, func(f api.Fun) bool { return f.Name == name })
}
