package halt

import (
	"maps"
	"slices"

	"handloom/api"
)

// descent goes through the Bodies of functions, one by one.
type descent struct {
	fun   api.Fun
	names scope  // as they stand where it has come to
	goes  []bool // by which parameters the calls that it has met go down
}

func newDescent() *descent { return &descent{names: scope{}} }

// down is the least parameter by which a function goes down.
func (d *descent) down(f api.Fun) (int, bool) {
	all, way := Calls(f.Body, f.Name)
	if all == 0 {
		return -1, true
	}
	if way > 1 {
		return -1, false
	}
	d.begin(f)
	d.expr(f.Body)
	at := slices.Index(d.goes, true)
	return at, at >= 0
}

// begin forgets the function ahead.
func (d *descent) begin(f api.Fun) {
	clear(d.names)
	for _, p := range f.Params {
		d.names[p.Name] = standing{to: p.Name, is: true}
	}
	d.fun, d.goes = f, slices.Repeat([]bool{true}, len(f.Params))
}

func (d *descent) expr(e api.Expr) {
	if e.Kind == api.ExCall && e.Name == d.fun.Name {
		d.call(e.Kids)
	}
	for at, kid := range e.Kids {
		switch {
		case at == 1 && e.Kind == api.ExLet:
			d.within(scope{e.Name: {}}, kid)
		case at == 1 && e.Kind == api.ExFor:
			d.loop(kid)
		default:
			d.expr(kid)
		}
	}
	inner := d.inner(e)
	for _, arm := range e.Arms {
		d.within(givenBy(arm.Pat, inner), arm.Body)
	}
}

// call leaves just those parameters by which one more call goes down.
func (d *descent) call(kids []api.Expr) {
	d.goes = d.goes[:min(len(d.goes), len(kids))]
	for k := range d.goes {
		s := d.names[kids[k].Name]
		d.goes[k] = d.goes[k] && kids[k].Kind == api.ExVar && s.lesser && s.to == d.fun.Params[k].Name
	}
}

// loop goes through what is done many times, where no call may stand.
func (d *descent) loop(e api.Expr) {
	if all, _ := Calls(e, d.fun.Name); all > 0 {
		clear(d.goes)
	}
}

// inner is how names stand that are parts of what a match is asked of.
func (d *descent) inner(e api.Expr) standing {
	if e.Kind != api.ExMatch || len(e.Kids) != 1 || e.Kids[0].Kind != api.ExVar {
		return standing{}
	}
	s := d.names[e.Kids[0].Name]
	s.lesser = s.is
	return s
}

// within goes through a part for which a scope begins. How its names stand around is copied, and holds again behind it: these names alone, as there may be as many scopes in one another as there are names.
func (d *descent) within(given scope, e api.Expr) {
	around := scope{}
	for name := range given {
		around[name] = d.names[name]
	}
	maps.Copy(d.names, given)
	d.expr(e)
	maps.Copy(d.names, around)
}
