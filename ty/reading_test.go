package ty_test

import (
	"reflect"
	"slices"

	"handloom/api"
	"handloom/ast"
)

// The chapter's words once more, by lists, values and reflection: another reading than the program's, to hold it against.

func theTwo() []api.Data {
	act := data("act")
	return list(
		typed("bool", con("False"), con("True")),
		typed("act", con("Done"), con("Say", number(), act), con("Tell", text(), act), con("Arm", number(), number(), act), con("Stop", number(), act)))
}

func wantDatas(p api.Prog) []api.Data { return slices.Concat(theTwo(), trim(p.Datas)) }

func wantFind(l []api.Data, name string) int {
	found := -1
	for at := len(l) - 1; at >= 0; at-- {
		if l[at].Name == name {
			found = at
		}
	}
	return found
}

type found struct {
	data, con int
	ok        bool
}

func wantCon(l []api.Data, name string) found {
	var all []found
	for at, d := range l {
		for n, c := range d.Cons {
			if c.Name == name {
				all = append(all, found{at, n, true})
			}
		}
	}
	return append(all, found{})[0]
}

// namesIn is the names of all TyDatas in anything.
func namesIn(v reflect.Value) []string {
	var l []string
	switch v.Kind() {
	case reflect.Struct:
		if t, ok := v.Interface().(api.Type); ok && t.Kind == api.TyData {
			l = append(l, t.Name)
		}
		for i := range v.NumField() {
			l = append(l, namesIn(v.Field(i))...)
		}
	case reflect.Slice:
		for i := range v.Len() {
			l = append(l, namesIn(v.Index(i))...)
		}
	}
	return l
}

func wantKnown(l []api.Data, it any) bool {
	return !slices.ContainsFunc(namesIn(reflect.ValueOf(it)), func(name string) bool { return wantFind(l, name) < 0 })
}

func wantSame(a, b api.Type) bool { return reflect.DeepEqual(trim(a), trim(b)) }

// grown is values of each type, one at most: each step makes them larger, of those that the steps ahead of it made, till one makes nothing new.
func grown(l []api.Data) [][]api.Value {
	now := make([][]api.Value, len(l))
	for {
		next := make([][]api.Value, len(l))
		for at, d := range l {
			next[at] = now[at]
			for _, c := range d.Cons {
				if kids, ok := madeOf(l, c.Fields, now); ok && len(next[at]) == 0 {
					next[at] = []api.Value{{Kind: api.VaCon, Name: c.Name, Kids: kids}}
				}
			}
		}
		if count(next) == count(now) {
			return now
		}
		now = next
	}
}

func count(l [][]api.Value) int { return len(slices.Concat(l...)) }

// madeOf is a value of each part, of those that there are.
func madeOf(l []api.Data, parts []api.Type, have [][]api.Value) ([]api.Value, bool) {
	var made []api.Value
	for _, t := range parts {
		v, ok := valueOf(l, t, have)
		if !ok {
			return nil, false
		}
		made = append(made, v)
	}
	return made, true
}

func valueOf(l []api.Data, t api.Type, have [][]api.Value) (api.Value, bool) {
	switch t.Kind {
	case api.TyInt:
		return api.Value{Kind: api.VaInt, Num: 7}, true
	case api.TyBytes:
		return api.Value{Kind: api.VaBytes, Bytes: []byte("a")}, true
	case api.TyTuple:
		kids, ok := madeOf(l, t.Parts, have)
		return api.Value{Kind: api.VaTuple, Kids: kids}, ok
	case api.TyData:
		if at := wantFind(l, t.Name); at >= 0 && len(have[at]) > 0 {
			return have[at][0], true
		}
	}
	return api.Value{}, false
}

// isOf tells whether a value is one of a type, all the way down.
func isOf(l []api.Data, t api.Type, v api.Value) bool {
	switch {
	case t.Kind == api.TyInt || t.Kind == api.TyBytes:
		return v.Kind == t.Kind && len(v.Kids) == 0
	case t.Kind == api.TyTuple:
		return v.Kind == api.VaTuple && areOf(l, t.Parts, v.Kids)
	case t.Kind == api.TyData:
		at := wantFind(l, t.Name)
		return at >= 0 && isMade(l, l[at], v)
	}
	return false
}

// isMade tells whether a value was made by one of a type's constructors.
func isMade(l []api.Data, d api.Data, v api.Value) bool {
	return v.Kind == api.VaCon && slices.ContainsFunc(d.Cons, func(c api.Con) bool { return c.Name == v.Name && areOf(l, c.Fields, v.Kids) })
}

func areOf(l []api.Data, parts []api.Type, kids []api.Value) bool {
	if len(parts) != len(kids) {
		return false
	}
	for i := range parts {
		if !isOf(l, parts[i], kids[i]) {
			return false
		}
	}
	return true
}

func wantFull(l []api.Data) []bool {
	var full []bool
	for _, made := range grown(l) {
		full = append(full, len(made) > 0)
	}
	return full
}

// namesOf is a type's name, and those of its constructors.
func namesOf(d api.Data) []string {
	l := []string{d.Name}
	for _, c := range d.Cons {
		l = append(l, c.Name)
	}
	return l
}

func isTwice(ahead []api.Data, d api.Data) bool {
	var all []string
	for _, a := range ahead {
		all = append(all, namesOf(a)...)
	}
	for _, name := range namesOf(d) {
		if slices.Contains(all, name) {
			return true
		}
		all = append(all, name)
	}
	return false
}

func wantCheck(p api.Prog) api.Fault {
	if !ast.Fit(p) {
		return api.Fault{Err: api.ErrForm}
	}
	all := slices.Concat(theTwo(), p.Datas)
	for i, d := range p.Datas {
		if isTwice(all[:2+i], d) {
			return api.Fault{Err: api.ErrTwice, At: d.At}
		}
	}
	for _, d := range p.Datas {
		if !wantKnown(all, d) {
			return api.Fault{Err: api.ErrName, At: d.At}
		}
	}
	full := wantFull(all)
	for i, d := range p.Datas {
		if !full[2+i] {
			return api.Fault{Err: api.ErrEmpty, At: d.At}
		}
	}
	return api.Fault{}
}

// trim is a copy of anything, without lists that are empty.
func trim[T any](it T) T {
	out := reflect.New(reflect.TypeOf(it)).Elem()
	copyPart(out, reflect.ValueOf(it), 1)
	return out.Interface().(T)
}

// twin is a copy of anything, just as it is.
func twin[T any](it T) T {
	out := reflect.New(reflect.TypeOf(it)).Elem()
	copyPart(out, reflect.ValueOf(it), 0)
	return out.Interface().(T)
}

// copyPart leaves lists out that are shorter than least.
func copyPart(to, from reflect.Value, least int) {
	switch from.Kind() {
	case reflect.Struct:
		for i := range from.NumField() {
			copyPart(to.Field(i), from.Field(i), least)
		}
	case reflect.Slice:
		if from.IsNil() || from.Len() < least {
			return
		}
		to.Set(reflect.MakeSlice(from.Type(), from.Len(), from.Len()))
		for i := range from.Len() {
			copyPart(to.Index(i), from.Index(i), least)
		}
	default:
		to.Set(from)
	}
}
