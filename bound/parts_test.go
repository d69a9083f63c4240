package bound_test

import (
	"fmt"
	"reflect"
	"strconv"
	"strings"
	"testing"

	"handloom/api"
	"handloom/halt"
	"handloom/parse"
	"handloom/value"
)

func number() api.Type { return api.Type{} }

func bytesType() api.Type { return api.Type{Kind: api.TyBytes} }

func data(name string) api.Type { return api.Type{Kind: api.TyData, Name: name} }

func tuple(parts ...api.Type) api.Type { return api.Type{Kind: api.TyTuple, Parts: parts} }

func param(name string, t api.Type) api.Param { return api.Param{Name: name, Type: t} }

func place(line, col int) api.Pos { return api.Pos{Line: line, Col: col} }

func anyPat() api.Pat { return api.Pat{} }

func varPat(name string) api.Pat { return api.Pat{Kind: api.PtVar, Name: name} }

func numPat(n int64) api.Pat { return api.Pat{Kind: api.PtInt, Num: n} }

func conPat(name string, kids ...api.Pat) api.Pat {
	return api.Pat{Kind: api.PtCon, Name: name, Kids: kids}
}

func rowPat(kids ...api.Pat) api.Pat { return api.Pat{Kind: api.PtTuple, Kids: kids} }

func num(n int64) api.Expr { return api.Expr{Num: n} }

func quoted(l []byte) api.Expr { return api.Expr{Kind: api.ExBytes, Bytes: l} }

func variable(name string) api.Expr { return api.Expr{Kind: api.ExVar, Name: name} }

func call(name string, kids ...api.Expr) api.Expr {
	return api.Expr{Kind: api.ExCall, Name: name, Kids: kids}
}

func conOf(name string, kids ...api.Expr) api.Expr {
	return api.Expr{Kind: api.ExCon, Name: name, Kids: kids}
}

func row(kids ...api.Expr) api.Expr { return api.Expr{Kind: api.ExTuple, Kids: kids} }

func op(n int64, kids ...api.Expr) api.Expr { return api.Expr{Kind: api.ExOp, Num: n, Kids: kids} }

func let(name string, what, where api.Expr) api.Expr {
	return api.Expr{Kind: api.ExLet, Name: name, Kids: []api.Expr{what, where}}
}

func choose(kids ...api.Expr) api.Expr { return api.Expr{Kind: api.ExIf, Kids: kids} }

func loop(times int64, name string, first, then api.Expr) api.Expr {
	return api.Expr{Kind: api.ExFor, Num: times, Name: name, Kids: []api.Expr{first, then}}
}

func match(of api.Expr, arms ...api.Arm) api.Expr {
	return api.Expr{Kind: api.ExMatch, Kids: []api.Expr{of}, Arms: arms}
}

func arm(p api.Pat, body api.Expr) api.Arm { return api.Arm{Pat: p, Body: body} }

// house is types that the tests' programs are of: flat ones; of themselves, once and twice; of each other; with texts and tuples between.
const house = `type color = Red | Green | Blue
type list = Nil | Cons of int * list
type tree = Leaf | Node of tree * int * tree
type wrap = End | Wrap of (int * wrap)
type rose = Rose of int * roses
type roses = Bare | More of rose * roses
type both = Both of list * tree
type note = Blank | Note of bytes * note
`

// start is what a program has beside its types and functions.
const start = "\nqueue 1 state int cap 0 = 0\n"

// prog is a program, from its text: nothing is wrong with it but what it costs.
func prog(t *testing.T, src string) api.Prog {
	t.Helper()
	p, f := parse.Parse(src)
	if f != (api.Fault{}) {
		t.Fatalf("%q can't be read: %v", src, f)
	}
	if f := halt.Check(p); f != (api.Fault{}) {
		t.Fatalf("%q has the fault %v", src, f)
	}
	return p
}

// val is a value, from its text.
func val(t *testing.T, src string) api.Value {
	t.Helper()
	v, f := value.Read(src)
	if f != (api.Fault{}) {
		t.Fatalf("%q can't be read: %v", src, f)
	}
	return v
}

// term reads one such as "3 a^2 b": the letters a to l are the unknowns 0 to 11.
func term(src string) api.Term {
	t := api.Term{Coef: 1}
	for i, part := range strings.Fields(src) {
		name, power, is := strings.Cut(part, "^")
		if n, err := strconv.ParseInt(part, 10, 64); err == nil && i == 0 {
			t.Coef = n
			continue
		}
		n := 1
		if is {
			n, _ = strconv.Atoi(power)
		}
		t.Exps[name[0]-'a'] = uint8(n)
	}
	return t
}

// sum is what is written, term by term; + without blanks adds numbers up.
func sum(src string) api.Poly {
	var p api.Poly
	for _, part := range strings.Split(reckoned(src), " + ") {
		if strings.TrimSpace(part) != "" {
			p = append(p, term(part))
		}
	}
	return p
}

// reckoned is a text with each number that is written as a sum of products, such as 6+2*7, in their place.
func reckoned(src string) string {
	words := strings.Fields(src)
	for i, word := range words {
		if !strings.ContainsAny(word, "*+") || word == "+" {
			continue
		}
		e, f := parse.Expr(word)
		if f != (api.Fault{}) {
			panic(word)
		}
		words[i] = strconv.FormatInt(reckon(e), 10)
	}
	return strings.Join(words, " ")
}

func reckon(e api.Expr) int64 {
	switch {
	case e.Kind == api.ExInt:
		return e.Num
	case e.Num == api.OpMul:
		return reckon(e.Kids[0]) * reckon(e.Kids[1])
	}
	return reckon(e.Kids[0]) + reckon(e.Kids[1])
}

// bounds is four sums, from their texts.
func bounds(size, words, steps, peak string) api.Bound {
	return api.Bound{Size: sum(size), Words: sum(words), Steps: sum(steps), Peak: sum(peak)}
}

// written is a sum's text, as sum reads it.
func written(p api.Poly) string {
	var l []string
	for _, t := range p {
		s := strconv.FormatInt(t.Coef, 10)
		for k, e := range t.Exps {
			if e > 0 {
				s += " " + string(rune('a'+k)) + "^" + strconv.Itoa(int(e))
			}
		}
		l = append(l, s)
	}
	return strings.Join(l, " + ")
}

func shown(b api.Bound) string {
	return strings.Join([]string{"size " + written(b.Size), "words " + written(b.Words), "steps " + written(b.Steps), "peak " + written(b.Peak)}, "; ")
}

// wants holds a bound that was told against one that is asked for.
func wants(t *testing.T, what string, got, want api.Bound) {
	t.Helper()
	if !reflect.DeepEqual(got, want) {
		t.Errorf("%s:\n%s was told, want\n%s", what, shown(got), shown(want))
	}
}

// numbered is the same with a place of its own for each part.
func numbered[T any](it T) T {
	out := reflect.New(reflect.TypeOf(it)).Elem()
	copyPart(out, reflect.ValueOf(it))
	count := 0
	numberPlaces(out, &count)
	return out.Interface().(T)
}

func numberPlaces(v reflect.Value, count *int) {
	switch v.Kind() {
	case reflect.Struct:
		if v.Type() == reflect.TypeFor[api.Pos]() {
			*count++
			v.Set(reflect.ValueOf(place(*count, *count%7)))
			return
		}
		for i := range v.NumField() {
			numberPlaces(v.Field(i), count)
		}
	case reflect.Slice:
		for i := range v.Len() {
			numberPlaces(v.Index(i), count)
		}
	}
}

// twin is a copy of anything, just as it is.
func twin[T any](it T) T {
	out := reflect.New(reflect.TypeOf(it)).Elem()
	copyPart(out, reflect.ValueOf(it))
	return out.Interface().(T)
}

func copyPart(to, from reflect.Value) {
	switch from.Kind() {
	case reflect.Struct:
		for i := range from.NumField() {
			copyPart(to.Field(i), from.Field(i))
		}
	case reflect.Slice:
		if from.IsNil() {
			return
		}
		to.Set(reflect.MakeSlice(from.Type(), from.Len(), from.Len()))
		for i := range from.Len() {
			copyPart(to.Index(i), from.Index(i))
		}
	default:
		to.Set(from)
	}
}

// nested is a part with so many others round it.
func nested[T any](count int, inner T, wrap func(T) T) T {
	for range count {
		inner = wrap(inner)
	}
	return inner
}

// short is what something looks like, cut off.
func short(it any) string {
	s := fmt.Sprintf("%+v", it)
	return s[:min(len(s), 1500)]
}
