package value_test

import (
	"fmt"
	"strings"
	"testing"

	"handloom/api"
	"handloom/parse"
	"handloom/ty"
)

func num(n int64) api.Value { return api.Value{Num: n} }

func text(s string) api.Value { return api.Value{Kind: api.VaBytes, Bytes: []byte(s)} }

// long is a text of so many bytes.
func long(count int) api.Value { return text(strings.Repeat("a", count)) }

func con(name string, kids ...api.Value) api.Value {
	return api.Value{Kind: api.VaCon, Name: name, Kids: kids}
}

func tuple(kids ...api.Value) api.Value { return api.Value{Kind: api.VaTuple, Kids: kids} }

func number() api.Type { return api.Type{} }

func bytesType() api.Type { return api.Type{Kind: api.TyBytes} }

func data(name string) api.Type { return api.Type{Kind: api.TyData, Name: name} }

func pack(parts ...api.Type) api.Type { return api.Type{Kind: api.TyTuple, Parts: parts} }

func makes(name string, fields ...api.Type) api.Con { return api.Con{Name: name, Fields: fields} }

func typed(name string, cons ...api.Con) api.Data { return api.Data{Name: name, Cons: cons} }

// types is all types of a program, from the text of its own.
func types(t *testing.T, declared string) []api.Data {
	t.Helper()
	p, f := parse.Parse(declared + " queue 1 state int cap 0 = 0")
	if f != (api.Fault{}) {
		t.Fatalf("%q can't be read: %v", declared, f)
	}
	return ty.Datas(p)
}

// someTypes are such as may be declared: of themselves, of each other, of tuples, and one without values.
func someTypes(t *testing.T) []api.Data {
	t.Helper()
	return types(t, "type list = Nil | Cons of int * list type tree = Leaf | Node of tree * (int * list) * tree type text = Text of bytes | Two of bytes * bytes "+
		"type even = Zero | Even of odd type odd = Odd of even type flag = Flag of bool * (flag * int) | Unflag type empty = Empty of empty")
}

// typ is a type from its text.
func typ(t *testing.T, src string) api.Type {
	t.Helper()
	got, f := parse.Type(src)
	if f != (api.Fault{}) {
		t.Fatalf("%q can't be read: %v", src, f)
	}
	return got
}

// val is a value from its text, by the second reading.
func val(t *testing.T, src string) api.Value {
	t.Helper()
	v, f := wantRead(src)
	if f != (api.Fault{}) {
		t.Fatalf("%q can't be read: %v", src, f)
	}
	return v
}

// row is a list of numbers, which is so many deep.
func row(deep int) api.Value {
	v := con("Nil")
	for range deep - 1 {
		v = con("Cons", num(1), v)
	}
	return v
}

// nested is a value in so many others.
func nested(depth int, v api.Value, wrap func(v api.Value) api.Value) api.Value {
	for range depth {
		v = wrap(v)
	}
	return v
}

// wraps make a value that has another one in it, at any place; the last one makes it two deeper.
func wraps() []func(v api.Value) api.Value {
	return []func(v api.Value) api.Value{
		func(v api.Value) api.Value { return con("A", v) },
		func(v api.Value) api.Value { return con("B", num(0), v) },
		func(v api.Value) api.Value { return tuple(v, text("b")) },
		func(v api.Value) api.Value { return tuple(num(1), v) },
		func(v api.Value) api.Value { return con("C", tuple(con("D"), v), num(7)) },
	}
}

// short is what something looks like, cut off.
func short(it any) string {
	s := fmt.Sprintf("%+v", it)
	return s[:min(len(s), 400)]
}
