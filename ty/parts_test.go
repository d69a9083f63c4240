package ty_test

import (
	"fmt"
	"slices"
	"strings"
	"testing"

	"handloom/api"
	"handloom/parse"
)

func number() api.Type { return api.Type{} }

func text() api.Type { return api.Type{Kind: api.TyBytes} }

func data(name string) api.Type { return api.Type{Kind: api.TyData, Name: name} }

func tuple(parts ...api.Type) api.Type { return api.Type{Kind: api.TyTuple, Parts: parts} }

func con(name string, fields ...api.Type) api.Con { return api.Con{Name: name, Fields: fields} }

func typed(name string, cons ...api.Con) api.Data { return api.Data{Name: name, Cons: cons} }

func list(l ...api.Data) []api.Data { return l }

func place(line, col int) api.Pos { return api.Pos{Line: line, Col: col} }

// rest is what a program has beside its types.
const rest = " queue 1 state int cap 0 = 0"

// prog is a program of some types, from its text.
func prog(t *testing.T, types string) api.Prog {
	t.Helper()
	p, f := parse.Parse(types + rest)
	if f != (api.Fault{}) {
		t.Fatalf("%q can't be read: %v", short(types), f)
	}
	return p
}

// spelled is a type as the chapter writes it.
func spelled(d api.Data) string {
	var cons []string
	for _, c := range d.Cons {
		var fields []string
		for _, f := range c.Fields {
			fields = append(fields, spelledType(f))
		}
		cons = append(cons, strings.Join(slices.DeleteFunc([]string{c.Name, strings.Join(fields, " * ")}, isEmpty), " of "))
	}
	return d.Name + " = " + strings.Join(cons, " | ")
}

func isEmpty(s string) bool { return s == "" }

func spelledType(t api.Type) string {
	var parts []string
	for _, p := range t.Parts {
		parts = append(parts, spelledType(p))
	}
	inner := strings.Join(parts, " * ")
	switch {
	case t.Kind == api.TyInt && t.Name+inner == "":
		return "int"
	case t.Kind == api.TyBytes && t.Name+inner == "":
		return "bytes"
	case t.Kind == api.TyData && inner == "":
		return t.Name
	case t.Kind == api.TyTuple && t.Name == "":
		return "(" + inner + ")"
	}
	return fmt.Sprintf("?%+v", t)
}

// short is what something looks like, cut off.
func short(it any) string {
	s := fmt.Sprintf("%+v", it)
	return s[:min(len(s), 400)]
}
