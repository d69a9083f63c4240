package halt_test

import (
	"fmt"
	"reflect"
	"testing"

	"handloom/api"
	"handloom/parse"
)

func number() api.Type { return api.Type{} }

func data(name string) api.Type { return api.Type{Kind: api.TyData, Name: name} }

func tuple(parts ...api.Type) api.Type { return api.Type{Kind: api.TyTuple, Parts: parts} }

func param(name string, t api.Type) api.Param { return api.Param{Name: name, Type: t} }

// lists is params of names.
func lists(names ...string) []api.Param {
	var l []api.Param
	for _, name := range names {
		l = append(l, param(name, data("list")))
	}
	return l
}

func place(line, col int) api.Pos { return api.Pos{Line: line, Col: col} }

func anyPat() api.Pat { return api.Pat{} }

func varPat(name string) api.Pat { return api.Pat{Kind: api.PtVar, Name: name} }

func numPat(n int64) api.Pat { return api.Pat{Kind: api.PtInt, Num: n} }

func conPat(name string, kids ...api.Pat) api.Pat {
	return api.Pat{Kind: api.PtCon, Name: name, Kids: kids}
}

func rowPat(kids ...api.Pat) api.Pat { return api.Pat{Kind: api.PtTuple, Kids: kids} }

func num(n int64) api.Expr { return api.Expr{Num: n} }

func variable(name string) api.Expr { return api.Expr{Kind: api.ExVar, Name: name} }

func call(name string, kids ...api.Expr) api.Expr {
	return api.Expr{Kind: api.ExCall, Name: name, Kids: kids}
}

func conOf(name string, kids ...api.Expr) api.Expr {
	return api.Expr{Kind: api.ExCon, Name: name, Kids: kids}
}

func row(kids ...api.Expr) api.Expr { return api.Expr{Kind: api.ExTuple, Kids: kids} }

func op(n int64, kids ...api.Expr) api.Expr { return api.Expr{Kind: api.ExOp, Num: n, Kids: kids} }

func let(name string, what, where api.Expr) api.Expr {
	return api.Expr{Kind: api.ExLet, Name: name, Kids: []api.Expr{what, where}}
}

func choose(kids ...api.Expr) api.Expr { return api.Expr{Kind: api.ExIf, Kids: kids} }

func loop(times int64, name string, first, then api.Expr) api.Expr {
	return api.Expr{Kind: api.ExFor, Num: times, Name: name, Kids: []api.Expr{first, then}}
}

func match(of api.Expr, arms ...api.Arm) api.Expr {
	return api.Expr{Kind: api.ExMatch, Kids: []api.Expr{of}, Arms: arms}
}

func arm(p api.Pat, body api.Expr) api.Arm { return api.Arm{Pat: p, Body: body} }

func fun(params []api.Param, body api.Expr) api.Fun {
	return api.Fun{Name: "f", Params: params, Result: number(), Body: body}
}

// house is types that the tests' functions are of: of themselves, once and twice; of each other; with tuples between.
const house = `type color = Red | Green | Blue
type list = Nil | Cons of int * list
type tree = Leaf | Node of tree * int * tree
type wrap = End | Wrap of (int * wrap)
type rose = Rose of int * roses
type roses = Bare | More of rose * roses
type both = Both of list * tree
`

// start is what a program has beside its types and functions.
const start = "\nqueue 1 state int cap 0 = 0\n"

// prog is a program, from its text.
func prog(t *testing.T, src string) api.Prog {
	t.Helper()
	p, f := parse.Parse(src)
	if f != (api.Fault{}) {
		t.Fatalf("%q can't be read: %v", src, f)
	}
	return p
}

// funOf is the last function of a text.
func funOf(t *testing.T, src string) api.Fun {
	t.Helper()
	p := prog(t, src+start)
	return p.Funs[len(p.Funs)-1]
}

// expr is an expression, from its text.
func expr(t *testing.T, src string) api.Expr {
	t.Helper()
	e, f := parse.Expr(src)
	if f != (api.Fault{}) {
		t.Fatalf("%q can't be read: %v", src, f)
	}
	return e
}

// numbered is the same with a place of its own for each part.
func numbered[T any](it T) T {
	out := reflect.New(reflect.TypeOf(it)).Elem()
	copyPart(out, reflect.ValueOf(it))
	count := 0
	numberPlaces(out, &count)
	return out.Interface().(T)
}

func numberPlaces(v reflect.Value, count *int) {
	switch v.Kind() {
	case reflect.Struct:
		if v.Type() == reflect.TypeFor[api.Pos]() {
			*count++
			v.Set(reflect.ValueOf(place(*count, *count%7)))
			return
		}
		for i := range v.NumField() {
			numberPlaces(v.Field(i), count)
		}
	case reflect.Slice:
		for i := range v.Len() {
			numberPlaces(v.Index(i), count)
		}
	}
}

// twin is a copy of anything, just as it is.
func twin[T any](it T) T {
	out := reflect.New(reflect.TypeOf(it)).Elem()
	copyPart(out, reflect.ValueOf(it))
	return out.Interface().(T)
}

func copyPart(to, from reflect.Value) {
	switch from.Kind() {
	case reflect.Struct:
		for i := range from.NumField() {
			copyPart(to.Field(i), from.Field(i))
		}
	case reflect.Slice:
		if from.IsNil() {
			return
		}
		to.Set(reflect.MakeSlice(from.Type(), from.Len(), from.Len()))
		for i := range from.Len() {
			copyPart(to.Index(i), from.Index(i))
		}
	default:
		to.Set(from)
	}
}

// nested is a part with so many others round it.
func nested[T any](count int, inner T, wrap func(T) T) T {
	for range count {
		inner = wrap(inner)
	}
	return inner
}

// short is what something looks like, cut off.
func short(it any) string {
	s := fmt.Sprintf("%+v", it)
	return s[:min(len(s), 1200)]
}
