package eval

import (
	"handloom/api"
	"handloom/ty"
	"handloom/value"
)

// task is an expression that is to be gone through, and the names that it knows.
type task struct {
	params []api.Param
	body   api.Expr
}

// wrong is what is wrong with the values that a task's names are to have.
func (t task) wrong(p api.Prog, args []api.Value) api.Errno {
	if len(args) != len(t.params) {
		return api.ErrCount
	}
	all := ty.Datas(p)
	for at, param := range t.params {
		if !value.Of(all, args[at], param.Type) {
			return api.ErrType
		}
	}
	return api.OK
}

// run does a task of a program in which nothing is wrong; here a machine that gives up is caught.
func run(p api.Prog, t task, args []api.Value, fuel int) (told api.Value, cost api.Cost, err api.Errno) {
	if wrong := t.wrong(p, args); wrong != api.OK {
		return api.Value{}, api.Cost{}, wrong
	}
	defer func() {
		thrown := recover()
		if thrown == nil {
			return
		}
		reason, ok := thrown.(api.Errno)
		if !ok {
			panic(thrown)
		}
		err = reason
	}()
	m := machine{funs: p.Funs, fuel: min(fuel, api.MaxFuel)}
	// what is given is copied, too, as not all that is told can be: see newTold
	v := m.worth(&t.body, spotOf(len(t.params), t.params, each(args, newValue)))
	return newTold(v), m.cost, api.OK
}
