package eval_test

import (
	"fmt"
	"reflect"
	"strings"
	"testing"

	"handloom/api"
	"handloom/halt"
	"handloom/parse"
	"handloom/value"
)

func number() api.Type { return api.Type{} }

func bytesType() api.Type { return api.Type{Kind: api.TyBytes} }

func data(name string) api.Type { return api.Type{Kind: api.TyData, Name: name} }

func tuple(parts ...api.Type) api.Type { return api.Type{Kind: api.TyTuple, Parts: parts} }

func param(name string, t api.Type) api.Param { return api.Param{Name: name, Type: t} }

func anyPat() api.Pat { return api.Pat{} }

func varPat(name string) api.Pat { return api.Pat{Kind: api.PtVar, Name: name} }

func numPat(n int64) api.Pat { return api.Pat{Kind: api.PtInt, Num: n} }

func conPat(name string, kids ...api.Pat) api.Pat {
	return api.Pat{Kind: api.PtCon, Name: name, Kids: kids}
}

func rowPat(kids ...api.Pat) api.Pat { return api.Pat{Kind: api.PtTuple, Kids: kids} }

func num(n int64) api.Expr { return api.Expr{Num: n} }

func quoted(s string) api.Expr { return api.Expr{Kind: api.ExBytes, Bytes: []byte(s)} }

func variable(name string) api.Expr { return api.Expr{Kind: api.ExVar, Name: name} }

func call(name string, kids ...api.Expr) api.Expr {
	return api.Expr{Kind: api.ExCall, Name: name, Kids: kids}
}

func conOf(name string, kids ...api.Expr) api.Expr {
	return api.Expr{Kind: api.ExCon, Name: name, Kids: kids}
}

func row(kids ...api.Expr) api.Expr { return api.Expr{Kind: api.ExTuple, Kids: kids} }

func op(n int64, kids ...api.Expr) api.Expr { return api.Expr{Kind: api.ExOp, Num: n, Kids: kids} }

func let(name string, what, where api.Expr) api.Expr {
	return api.Expr{Kind: api.ExLet, Name: name, Kids: []api.Expr{what, where}}
}

func choose(kids ...api.Expr) api.Expr { return api.Expr{Kind: api.ExIf, Kids: kids} }

func loop(times int64, name string, first, then api.Expr) api.Expr {
	return api.Expr{Kind: api.ExFor, Num: times, Name: name, Kids: []api.Expr{first, then}}
}

func match(of api.Expr, arms ...api.Arm) api.Expr {
	return api.Expr{Kind: api.ExMatch, Kids: []api.Expr{of}, Arms: arms}
}

func arm(p api.Pat, body api.Expr) api.Arm { return api.Arm{Pat: p, Body: body} }

func numVal(n int64) api.Value { return api.Value{Num: n} }

func textVal(s string) api.Value { return api.Value{Kind: api.VaBytes, Bytes: []byte(s)} }

func conVal(name string, kids ...api.Value) api.Value {
	return api.Value{Kind: api.VaCon, Name: name, Kids: kids}
}

func rowVal(kids ...api.Value) api.Value { return api.Value{Kind: api.VaTuple, Kids: kids} }

// house is types that the tests' programs are of: of themselves, once and twice; of each other; with texts and tuples between.
const house = `type color = Red | Green | Blue
type list = Nil | Cons of int * list
type tree = Leaf | Node of tree * int * tree
type wrap = End | Wrap of (int * wrap)
type rose = Rose of int * roses
type roses = Bare | More of rose * roses
type both = Both of list * tree
type note = Blank | Note of bytes * note
`

// start is what a program has beside its types and functions.
const start = "\nqueue 1 state int cap 0 = 0\n"

// prog is a program, from its text: nothing is wrong with it.
func prog(t *testing.T, src string) api.Prog {
	t.Helper()
	p, f := parse.Parse(src)
	if f != (api.Fault{}) {
		t.Fatalf("%q can't be read: %v", src, f)
	}
	if f := halt.Check(p); f != (api.Fault{}) {
		t.Fatalf("%q has the fault %v", src, f)
	}
	return p
}

// expr is an expression, from its text.
func expr(t *testing.T, src string) api.Expr {
	t.Helper()
	e, f := parse.Expr(src)
	if f != (api.Fault{}) {
		t.Fatalf("%q can't be read: %v", src, f)
	}
	return e
}

// val is a value, from its text.
func val(t *testing.T, src string) api.Value {
	t.Helper()
	v, f := value.Read(src)
	if f != (api.Fault{}) {
		t.Fatalf("%q can't be read: %v", src, f)
	}
	return v
}

func vals(t *testing.T, l ...string) []api.Value {
	t.Helper()
	var made []api.Value
	for _, src := range l {
		made = append(made, val(t, src))
	}
	return made
}

// twin is a copy of anything, just as it is.
func twin[T any](it T) T {
	out := reflect.New(reflect.TypeOf(it)).Elem()
	copyPart(out, reflect.ValueOf(it))
	return out.Interface().(T)
}

func copyPart(to, from reflect.Value) {
	switch from.Kind() {
	case reflect.Struct:
		for i := range from.NumField() {
			copyPart(to.Field(i), from.Field(i))
		}
	case reflect.Slice:
		if from.IsNil() {
			return
		}
		to.Set(reflect.MakeSlice(from.Type(), from.Len(), from.Len()))
		for i := range from.Len() {
			copyPart(to.Index(i), from.Index(i))
		}
	default:
		to.Set(from)
	}
}

// nested is a part with so many others round it.
func nested[T any](count int, inner T, wrap func(T) T) T {
	for range count {
		inner = wrap(inner)
	}
	return inner
}

// short is what something looks like, cut off.
func short(it any) string {
	s := fmt.Sprintf("%+v", it)
	return s[:min(len(s), 1500)]
}

func repeated(s string, count int, sep string) string {
	return strings.TrimSuffix(strings.Repeat(s+sep, count), sep)
}
