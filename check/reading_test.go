package check_test

import (
	"slices"
	"strings"

	"handloom/api"
	"handloom/ast"
	"handloom/ty"
)

// The chapter's words once more: another reading than the program's, to hold it against. It never stops: it writes down all that is wrong, in the order in which things are looked at, and the first of it is what is told.

type reading struct {
	all   []api.Data
	funs  []api.Fun
	open  int
	wrong []api.Fault
}

// lost is the type of what has none.
func lost() api.Type { return api.Type{Kind: -77, Name: "lost"} }

func (r *reading) need(ok bool, err api.Errno, at api.Pos) {
	if !ok {
		r.wrong = append(r.wrong, api.Fault{Err: err, At: at})
	}
}

// fault is the first that is wrong.
func (r *reading) fault() api.Fault { return append(r.wrong, api.Fault{})[0] }

func alike(a, b api.Type) bool { return spelled(a) == spelled(b) }

// made is the type that a constructor of a name makes, and its fields.
func made(l []api.Data, name string) (of int, fields []api.Type, ok bool) {
	for at, d := range l {
		for _, c := range d.Cons {
			if c.Name == name && !ok {
				of, fields, ok = at, c.Fields, true
			}
		}
	}
	return of, fields, ok
}

func firstOf(l []api.Data, name string) int {
	return slices.IndexFunc(l, func(d api.Data) bool { return d.Name == name })
}

// at is a list's part, or what has none.
func at[T any](l []T, i int, none T) T {
	if i < len(l) {
		return l[i]
	}
	return none
}

// pat is the names behind those that stand ahead in the same pattern.
func (r *reading) pat(ahead []api.Param, p api.Pat, t api.Type) []api.Param {
	var of []api.Type
	switch p.Kind {
	case api.PtVar:
		r.need(!slices.ContainsFunc(ahead, func(a api.Param) bool { return a.Name == p.Name }), api.ErrTwice, p.At)
		ahead = append(ahead, param(p.Name, t))
	case api.PtInt:
		r.need(t.Kind == api.TyInt, api.ErrType, p.At)
	case api.PtTuple:
		r.need(t.Kind == api.TyTuple && len(t.Parts) == len(p.Kids), api.ErrType, p.At)
		of = t.Parts
	case api.PtCon:
		data, fields, ok := made(r.all, p.Name)
		r.need(ok, api.ErrName, p.At)
		r.need(t.Kind == api.TyData && firstOf(r.all, t.Name) == data, api.ErrType, p.At)
		r.need(len(fields) == len(p.Kids), api.ErrCount, p.At)
		of = fields
	}
	for i, kid := range p.Kids {
		ahead = r.pat(ahead, kid, at(of, i, lost()))
	}
	return ahead
}

// operators is what they want, and what they tell, by their numbers.
var operators = strings.Fields("int,int>int int,int>int int,int>int int,int>int int,int>int int,int>bool int,int>bool int,int>bool bytes>int bytes,int>int bytes,bytes>bytes bytes,int,int>bytes")

func basic(name string) api.Type {
	switch name {
	case "int":
		return number()
	case "bytes":
		return text()
	}
	return data(name)
}

// kids holds parts against what is wanted, each behind it is read.
func (r *reading) kids(env []api.Param, kids []api.Expr, want []api.Type) {
	for i, kid := range kids {
		r.wants(env, kid, at(want, i, lost()))
	}
}

func (r *reading) wants(env []api.Param, e api.Expr, want api.Type) {
	got := r.expr(env, e)
	r.need(alike(got, want), api.ErrType, e.At)
}

func behind(env []api.Param, more ...api.Param) []api.Param { return slices.Concat(env, more) }

func (r *reading) expr(env []api.Param, e api.Expr) api.Type {
	switch e.Kind {
	case api.ExInt:
		return number()
	case api.ExBytes:
		return text()
	case api.ExVar:
		of, found := lost(), 0
		for _, p := range env {
			if p.Name == e.Name {
				of, found = p.Type, found+1
			}
		}
		r.need(found > 0, api.ErrName, e.At)
		return of
	case api.ExCon:
		data, fields, ok := made(r.all, e.Name)
		r.need(ok, api.ErrName, e.At)
		r.need(len(fields) == len(e.Kids), api.ErrCount, e.At)
		r.kids(env, e.Kids, fields)
		return basic(r.all[data].Name)
	case api.ExTuple:
		var parts []api.Type
		for _, kid := range e.Kids {
			parts = append(parts, r.expr(env, kid))
		}
		return tuple(parts...)
	case api.ExCall:
		return r.call(env, e)
	case api.ExOp:
		wants, told, _ := strings.Cut(operators[e.Num], ">")
		var want []api.Type
		for _, name := range strings.Split(wants, ",") {
			want = append(want, basic(name))
		}
		r.kids(env, e.Kids, want)
		return basic(told)
	}
	return r.way(env, e)
}

func (r *reading) call(env []api.Param, e api.Expr) api.Type {
	place := slices.IndexFunc(r.funs, func(f api.Fun) bool { return f.Name == e.Name })
	f := api.Fun{Result: lost()}
	r.need(place >= 0, api.ErrName, e.At)
	if place >= 0 {
		f = r.funs[place]
	}
	r.need(place < r.open, api.ErrOrder, e.At)
	r.need(len(f.Params) == len(e.Kids), api.ErrCount, e.At)
	var want []api.Type
	for _, p := range f.Params {
		want = append(want, p.Type)
	}
	r.kids(env, e.Kids, want)
	return f.Result
}

// way is the type of what goes on in one way or another, by names.
func (r *reading) way(env []api.Param, e api.Expr) api.Type {
	first := r.expr(env, e.Kids[0])
	switch e.Kind {
	case api.ExLet:
		return r.expr(behind(env, param(e.Name, first)), e.Kids[1])
	case api.ExFor:
		r.wants(behind(env, param(e.Name, first)), e.Kids[1], first)
		return first
	case api.ExIf:
		r.need(alike(first, data("bool")), api.ErrType, e.Kids[0].At)
		then := r.expr(env, e.Kids[1])
		r.wants(env, e.Kids[2], then)
		return then
	}
	var told api.Type
	for i, arm := range e.Arms {
		names := r.pat(nil, arm.Pat, first)
		of := r.expr(behind(env, names...), arm.Body)
		if i == 0 {
			told = of
		}
		r.need(alike(of, told), api.ErrType, arm.Body.At)
	}
	return told
}

func theTwo() []api.Data {
	act := data("act")
	return []api.Data{
		typed("bool", con("False"), con("True")),
		typed("act", con("Done"), con("Say", number(), act), con("Tell", text(), act), con("Arm", number(), number(), act), con("Stop", number(), act)),
	}
}

func wantBinds(l []api.Data, p api.Pat, t api.Type) ([]api.Param, api.Fault) {
	if !ast.FitPat(p) {
		return nil, api.Fault{Err: api.ErrForm}
	}
	r := reading{all: l}
	names := r.pat(nil, p, t)
	if f := r.fault(); f != (api.Fault{}) {
		return nil, f
	}
	return trim(names), api.Fault{}
}

func wantTypeOf(p api.Prog, env []api.Param, e api.Expr) (api.Type, api.Fault) {
	if !ast.Fit(p) || !ast.FitExpr(e) {
		return api.Type{}, api.Fault{Err: api.ErrForm}
	}
	r := reading{all: slices.Concat(theTwo(), p.Datas), funs: p.Funs, open: len(p.Funs)}
	of := r.expr(env, e)
	if f := r.fault(); f != (api.Fault{}) {
		return api.Type{}, f
	}
	return trim(of), api.Fault{}
}

// isKnown tells whether each type that a type names is there.
func (r *reading) isKnown(t api.Type) bool {
	return (t.Kind != api.TyData || firstOf(r.all, t.Name) >= 0) && !slices.ContainsFunc(t.Parts, func(p api.Type) bool { return !r.isKnown(p) })
}

func hasTwice(l []string) bool {
	slices.Sort(l)
	return len(slices.Compact(slices.Clone(l))) < len(l)
}

func wantCheck(p api.Prog) api.Fault {
	if f := ty.Check(p); f != (api.Fault{}) {
		return f
	}
	r := reading{all: slices.Concat(theTwo(), p.Datas), funs: p.Funs}
	var names []string
	for _, f := range p.Funs {
		names, r.open = append(names, f.Name), r.open+1
		var own []string
		known := r.isKnown(f.Result)
		for _, p := range f.Params {
			own, known = append(own, p.Name), known && r.isKnown(p.Type)
		}
		r.need(!hasTwice(slices.Clone(names)) && !hasTwice(own), api.ErrTwice, f.At)
		r.need(known, api.ErrName, f.At)
		r.wants(f.Params, f.Body, f.Result)
	}
	r.need(r.isKnown(p.State), api.ErrName, p.Init.At)
	r.wants(nil, p.Init, p.State)
	names = nil
	alarm := false
	for _, h := range p.Hands {
		names = append(names, h.Name)
		r.need(!hasTwice(slices.Clone(names)), api.ErrTwice, h.At)
		r.need(r.isKnown(h.Param.Type), api.ErrName, h.At)
		r.wants([]api.Param{param("state", p.State), h.Param}, h.Body, tuple(p.State, data("act")))
		if h.Name == "alarm" {
			alarm = true
			r.need(alike(h.Param.Type, number()), api.ErrType, h.At)
		}
	}
	r.need(alarm || p.Timers == 0, api.ErrMiss, p.Init.At)
	return r.fault()
}
