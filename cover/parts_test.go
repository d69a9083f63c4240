package cover_test

import (
	"fmt"
	"reflect"
	"strings"
	"testing"

	"handloom/api"
	"handloom/parse"
	"handloom/ty"
	"handloom/value"
)

const greatest = int64(1<<62 - 1)

func number() api.Type { return api.Type{} }

func text() api.Type { return api.Type{Kind: api.TyBytes} }

func data(name string) api.Type { return api.Type{Kind: api.TyData, Name: name} }

func tuple(parts ...api.Type) api.Type { return api.Type{Kind: api.TyTuple, Parts: parts} }

func con(name string, fields ...api.Type) api.Con { return api.Con{Name: name, Fields: fields} }

func typed(name string, cons ...api.Con) api.Data { return api.Data{Name: name, Cons: cons} }

func param(name string, t api.Type) api.Param { return api.Param{Name: name, Type: t} }

func place(line, col int) api.Pos { return api.Pos{Line: line, Col: col} }

func anyPat() api.Pat { return api.Pat{} }

func varPat(name string) api.Pat { return api.Pat{Kind: api.PtVar, Name: name} }

func numPat(n int64) api.Pat { return api.Pat{Kind: api.PtInt, Num: n} }

func conPat(name string, kids ...api.Pat) api.Pat {
	return api.Pat{Kind: api.PtCon, Name: name, Kids: kids}
}

func rowPat(kids ...api.Pat) api.Pat { return api.Pat{Kind: api.PtTuple, Kids: kids} }

func numVal(n int64) api.Value { return api.Value{Num: n} }

func textVal(s string) api.Value { return api.Value{Kind: api.VaBytes, Bytes: []byte(s)} }

func conVal(name string, kids ...api.Value) api.Value {
	return api.Value{Kind: api.VaCon, Name: name, Kids: kids}
}

func rowVal(kids ...api.Value) api.Value { return api.Value{Kind: api.VaTuple, Kids: kids} }

func variable(name string) api.Expr { return api.Expr{Kind: api.ExVar, Name: name} }

func num(n int64) api.Expr { return api.Expr{Num: n} }

func row(kids ...api.Expr) api.Expr { return api.Expr{Kind: api.ExTuple, Kids: kids} }

func let(name string, what, where api.Expr) api.Expr {
	return api.Expr{Kind: api.ExLet, Name: name, Kids: []api.Expr{what, where}}
}

func choose(kids ...api.Expr) api.Expr { return api.Expr{Kind: api.ExIf, Kids: kids} }

func loop(times int64, name string, first, then api.Expr) api.Expr {
	return api.Expr{Kind: api.ExFor, Num: times, Name: name, Kids: []api.Expr{first, then}}
}

func match(of api.Expr, arms ...api.Arm) api.Expr {
	return api.Expr{Kind: api.ExMatch, Kids: []api.Expr{of}, Arms: arms}
}

func arm(p api.Pat, body api.Expr) api.Arm { return api.Arm{Pat: p, Body: body} }

// rest is what a program has beside its types and functions.
const rest = "\nqueue 1 state int cap 0 = 0"

// house is types that the tests' patterns are of: of names alone, of fields, of themselves and of each other, of tuples.
const house = `type color = Red | Green | Blue
type list = Nil | Cons of int * list
type tree = Leaf | Node of tree * (int * bytes) * tree
type one = One of bytes
type pair = Pair of color * bool | Swap of bool * color
type even = Zero | Even of odd
type odd = Odd of even
type six = Six of int * bytes * list * tree * one * (int * bool)
`

// prog is a program, from its text.
func prog(t *testing.T, src string) api.Prog {
	t.Helper()
	p, f := parse.Parse(src)
	if f != (api.Fault{}) {
		t.Fatalf("%q can't be read: %v", src, f)
	}
	return p
}

// home is all types of a program with house's.
func home(t *testing.T) []api.Data {
	t.Helper()
	return ty.Datas(prog(t, house+rest))
}

// typeOf is a type, from its text.
func typeOf(t *testing.T, src string) api.Type {
	t.Helper()
	x, f := parse.Type(src)
	if f != (api.Fault{}) {
		t.Fatalf("%q can't be read: %v", src, f)
	}
	return x
}

// pats is patterns, from a text with bars between them.
func pats(t *testing.T, src string) []api.Pat {
	t.Helper()
	if src == "" {
		return nil
	}
	e, f := parse.Expr("match 0 with " + strings.ReplaceAll(src, "|", "-> 0 |") + " -> 0 end")
	if f != (api.Fault{}) {
		t.Fatalf("%q can't be read: %v", src, f)
	}
	var l []api.Pat
	for _, arm := range e.Arms {
		l = append(l, arm.Pat)
	}
	return l
}

// val is a value, from its text.
func val(t *testing.T, src string) api.Value {
	t.Helper()
	v, f := value.Read(src)
	if f != (api.Fault{}) {
		t.Fatalf("%q can't be read: %v", src, f)
	}
	return v
}

// numbered is the same with a place of its own for each part.
func numbered[T any](it T) T {
	out := reflect.New(reflect.TypeOf(it)).Elem()
	copyPart(out, reflect.ValueOf(it), 0)
	count := 0
	numberPlaces(out, &count)
	return out.Interface().(T)
}

func numberPlaces(v reflect.Value, count *int) {
	switch v.Kind() {
	case reflect.Struct:
		if v.Type() == reflect.TypeFor[api.Pos]() {
			*count++
			v.Set(reflect.ValueOf(place(*count, *count%7)))
			return
		}
		for i := range v.NumField() {
			numberPlaces(v.Field(i), count)
		}
	case reflect.Slice:
		for i := range v.Len() {
			numberPlaces(v.Index(i), count)
		}
	}
}

// twin is a copy of anything, just as it is.
func twin[T any](it T) T {
	out := reflect.New(reflect.TypeOf(it)).Elem()
	copyPart(out, reflect.ValueOf(it), 0)
	return out.Interface().(T)
}

// trim is a copy of anything, without lists that are empty.
func trim[T any](it T) T {
	out := reflect.New(reflect.TypeOf(it)).Elem()
	copyPart(out, reflect.ValueOf(it), 1)
	return out.Interface().(T)
}

// copyPart leaves lists out that are shorter than least.
func copyPart(to, from reflect.Value, least int) {
	switch from.Kind() {
	case reflect.Struct:
		for i := range from.NumField() {
			copyPart(to.Field(i), from.Field(i), least)
		}
	case reflect.Slice:
		if from.IsNil() || from.Len() < least {
			return
		}
		to.Set(reflect.MakeSlice(from.Type(), from.Len(), from.Len()))
		for i := range from.Len() {
			copyPart(to.Index(i), from.Index(i), least)
		}
	default:
		to.Set(from)
	}
}

// nested is a part with so many others round it.
func nested[T any](count int, inner T, wrap func(T) T) T {
	for range count {
		inner = wrap(inner)
	}
	return inner
}

// short is what something looks like, cut off.
func short(it any) string {
	s := fmt.Sprintf("%+v", it)
	return s[:min(len(s), 900)]
}
