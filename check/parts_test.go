package check_test

import (
	"fmt"
	"reflect"
	"strings"
	"testing"

	"handloom/api"
	"handloom/parse"
)

const most = int64(1<<62 - 1)

func number() api.Type { return api.Type{} }

func text() api.Type { return api.Type{Kind: api.TyBytes} }

func data(name string) api.Type { return api.Type{Kind: api.TyData, Name: name} }

func tuple(parts ...api.Type) api.Type { return api.Type{Kind: api.TyTuple, Parts: parts} }

func con(name string, fields ...api.Type) api.Con { return api.Con{Name: name, Fields: fields} }

func typed(name string, cons ...api.Con) api.Data { return api.Data{Name: name, Cons: cons} }

func param(name string, t api.Type) api.Param { return api.Param{Name: name, Type: t} }

func place(line, col int) api.Pos { return api.Pos{Line: line, Col: col} }

func num(n int64) api.Expr { return api.Expr{Kind: api.ExInt, Num: n} }

func quoted(s string) api.Expr { return api.Expr{Kind: api.ExBytes, Bytes: []byte(s)} }

func variable(name string) api.Expr { return api.Expr{Kind: api.ExVar, Name: name} }

func row(kids ...api.Expr) api.Expr { return api.Expr{Kind: api.ExTuple, Kids: kids} }

func op(n int64, kids ...api.Expr) api.Expr { return api.Expr{Kind: api.ExOp, Num: n, Kids: kids} }

func let(name string, what, where api.Expr) api.Expr {
	return api.Expr{Kind: api.ExLet, Name: name, Kids: []api.Expr{what, where}}
}

func choice(kids ...api.Expr) api.Expr { return api.Expr{Kind: api.ExIf, Kids: kids} }

func loop(times int64, name string, first, then api.Expr) api.Expr {
	return api.Expr{Kind: api.ExFor, Num: times, Name: name, Kids: []api.Expr{first, then}}
}

func match(of api.Expr, arms ...api.Arm) api.Expr {
	return api.Expr{Kind: api.ExMatch, Kids: []api.Expr{of}, Arms: arms}
}

func arm(p api.Pat, body api.Expr) api.Arm { return api.Arm{Pat: p, Body: body} }

func varPat(name string) api.Pat { return api.Pat{Kind: api.PtVar, Name: name} }

func numPat(n int64) api.Pat { return api.Pat{Kind: api.PtInt, Num: n} }

func conPat(name string, kids ...api.Pat) api.Pat {
	return api.Pat{Kind: api.PtCon, Name: name, Kids: kids}
}

func rowPat(kids ...api.Pat) api.Pat { return api.Pat{Kind: api.PtTuple, Kids: kids} }

// rest is what a program has beside its types and functions.
const rest = "\nqueue 1 state int cap 0 = 0"

// house is types and functions that the tests' expressions are made of.
const house = `type list = Nil | Cons of int * list
type tree = Leaf | Node of tree * (int * bytes) * tree
type one = One of bytes
type six = Six of int * bytes * list * tree * one * (int * bool)
fun length (l : list) : int = match l with Nil -> 0 | Cons(_, r) -> 1 + length(r) end
fun push (l : list, x : int) : list = Cons(x, l)
fun pair (b : bytes, p : (int * bool)) : (bytes * (int * bool)) = (b, p)
fun deep (t : tree) : tree = Node(t, (length(Nil), "a"), Leaf)
fun leaf (t : tree) : bool = match t with Leaf -> True | Node(_, _, _) -> False end
fun many (a : int, b : bytes, c : list, d : tree, e : one, f : (int * bool)) : act = Say(a, Tell(b, Done))`

// prog is a program, from its text.
func prog(t *testing.T, src string) api.Prog {
	t.Helper()
	p, f := parse.Parse(src)
	if f != (api.Fault{}) {
		t.Fatalf("%q can't be read: %v", src, f)
	}
	return p
}

func home(t *testing.T) api.Prog {
	t.Helper()
	return prog(t, house+rest)
}

// typeOf is a type, from its text.
func typeOf(t *testing.T, src string) api.Type {
	t.Helper()
	x, f := parse.Type(src)
	if f != (api.Fault{}) {
		t.Fatalf("%q can't be read: %v", src, f)
	}
	return x
}

func expr(t *testing.T, src string) api.Expr {
	t.Helper()
	e, f := parse.Expr(src)
	if f != (api.Fault{}) {
		t.Fatalf("%q can't be read: %v", src, f)
	}
	return e
}

// pat is a pattern, from its text; its places are in the line 2.
func pat(t *testing.T, src string) api.Pat {
	t.Helper()
	return expr(t, "match 0 with\n"+src+" -> 0 end").Arms[0].Pat
}

// params is names with their types, from a text with commas between them; state, which no text may give, is written first.
func params(t *testing.T, src string) []api.Param {
	t.Helper()
	var l []api.Param
	for _, one := range strings.Split(src, ",") {
		if name, of, ok := strings.Cut(one, ":"); ok {
			l = append(l, param(strings.TrimSpace(name), typeOf(t, of)))
		}
	}
	return l
}

// spelled is a type as a text: types are the same just if their texts are.
func spelled(t api.Type) string {
	var parts []string
	for _, p := range t.Parts {
		parts = append(parts, spelled(p))
	}
	inner := strings.Join(parts, " * ")
	switch {
	case t.Kind == api.TyInt && t.Name == "" && inner == "":
		return "int"
	case t.Kind == api.TyBytes && t.Name == "" && inner == "":
		return "bytes"
	case t.Kind == api.TyTuple && t.Name == "" && len(parts) > 1:
		return "(" + inner + ")"
	}
	return fmt.Sprintf("<%d %q %d: %s>", t.Kind, t.Name, len(parts), inner)
}

// spelledAll is names with their types.
func spelledAll(l []api.Param) string {
	var all []string
	for _, p := range l {
		all = append(all, fmt.Sprintf("%q : %s", p.Name, spelled(p.Type)))
	}
	return strings.Join(all, ", ")
}

// numbered is the same with a place of its own for each part.
func numbered[T any](it T) T {
	out := reflect.New(reflect.TypeOf(it)).Elem()
	copyPart(out, reflect.ValueOf(it), 0)
	count := 0
	numberPlaces(out, &count)
	return out.Interface().(T)
}

func numberPlaces(v reflect.Value, count *int) {
	switch v.Kind() {
	case reflect.Struct:
		if v.Type() == reflect.TypeFor[api.Pos]() {
			*count++
			v.Set(reflect.ValueOf(place(*count, *count%7)))
			return
		}
		for i := range v.NumField() {
			numberPlaces(v.Field(i), count)
		}
	case reflect.Slice:
		for i := range v.Len() {
			numberPlaces(v.Index(i), count)
		}
	}
}

// twin is a copy of anything, just as it is.
func twin[T any](it T) T {
	out := reflect.New(reflect.TypeOf(it)).Elem()
	copyPart(out, reflect.ValueOf(it), 0)
	return out.Interface().(T)
}

// trim is a copy of anything, without lists that are empty.
func trim[T any](it T) T {
	out := reflect.New(reflect.TypeOf(it)).Elem()
	copyPart(out, reflect.ValueOf(it), 1)
	return out.Interface().(T)
}

// copyPart leaves lists out that are shorter than least.
func copyPart(to, from reflect.Value, least int) {
	switch from.Kind() {
	case reflect.Struct:
		for i := range from.NumField() {
			copyPart(to.Field(i), from.Field(i), least)
		}
	case reflect.Slice:
		if from.IsNil() || from.Len() < least {
			return
		}
		to.Set(reflect.MakeSlice(from.Type(), from.Len(), from.Len()))
		for i := range from.Len() {
			copyPart(to.Index(i), from.Index(i), least)
		}
	default:
		to.Set(from)
	}
}

// nested is a part with so many others round it.
func nested[T any](count int, inner T, wrap func(T) T) T {
	for range count {
		inner = wrap(inner)
	}
	return inner
}

// short is what something looks like, cut off.
func short(it any) string {
	s := fmt.Sprintf("%+v", it)
	return s[:min(len(s), 900)]
}
