package parse_test

import (
	"reflect"
	"slices"
	"strconv"
	"strings"
	"testing"

	"handloom/api"
	"handloom/ast"
	"handloom/lex"
	"handloom/parse"
)

// tokensOf is a text's tokens as texts.
func tokensOf(src string) []string {
	l, _ := lex.Lex(src)
	var shown []string
	for _, t := range l {
		if t.Kind != api.TkEnd {
			shown = append(shown, lex.Show(t))
		}
	}
	return shown
}

func failed[T any](t *testing.T, what, src string, got T, fault api.Fault, err api.Errno, line, col int) {
	t.Helper()
	var none T
	if want := (api.Fault{Err: err, At: api.Pos{Line: line, Col: col}}); fault != want {
		t.Fatalf("%s(%s): fault %d at %v, want %d at %v", what, clip(src), fault.Err, fault.At, want.Err, want.At)
	}
	if !reflect.DeepEqual(got, none) {
		t.Fatalf("%s(%s): %s beside a fault", what, clip(src), short(got))
	}
}

// fails wants a text to be no expression, by a fault in its first line.
func fails(t *testing.T, src string, err api.Errno, col int) {
	t.Helper()
	got, fault := parse.Expr(src)
	failed(t, "Expr", src, got, fault, err, 1, col)
}

func failsType(t *testing.T, src string, err api.Errno, col int) {
	t.Helper()
	got, fault := parse.Type(src)
	failed(t, "Type", src, got, fault, err, 1, col)
}

func failsProg(t *testing.T, src string, err api.Errno, line, col int) {
	t.Helper()
	got, fault := parse.Parse(src)
	failed(t, "Parse", src, got, fault, err, line, col)
}

// P5.1, P5.2: what lex.Lex tells comes first
func TestLexsFaults(t *testing.T) {
	for _, src := range []string{
		"@", "x @", ") @", "f( \"a", "1 1 4611686018427387904", "\"\\q\"", strings.Repeat("a", 25), "\xff", "queue \xc3", "( # \xed\xa0\x80", "queue 0 ?",
		strings.Repeat("(", 4096), strings.Repeat(") ", 4096), strings.Repeat(" ", api.MaxSource+1), `"` + strings.Repeat("a", 65) + `"`, "int(@", "a\n b\n !",
	} {
		_, want := lex.Lex(src)
		if want.Err == api.OK {
			t.Fatalf("%s has tokens", clip(src))
		}
		e, fault := parse.Expr(src)
		failed(t, "Expr", src, e, fault, want.Err, want.At.Line, want.At.Col)
		ty, fault := parse.Type(src)
		failed(t, "Type", src, ty, fault, want.Err, want.At.Line, want.At.Col)
		p, fault := parse.Parse(src)
		failed(t, "Parse", src, p, fault, want.Err, want.At.Line, want.At.Col)
	}
}

// P5.2
func TestExprsThatEndTooEarlyOrGoOn(t *testing.T) {
	fails(t, "", api.ErrWant, 1)
	fails(t, " # x", api.ErrWant, 5)
	fails(t, "f(", api.ErrWant, 3)
	fails(t, "f()", api.ErrWant, 3)
	fails(t, "Nil()", api.ErrWant, 5)
	fails(t, "()", api.ErrWant, 2)
	fails(t, "(1", api.ErrWant, 3)
	fails(t, "(1,", api.ErrWant, 4)
	fails(t, "(1,)", api.ErrWant, 4)
	fails(t, "(1 2)", api.ErrWant, 4)
	fails(t, "1 2", api.ErrWant, 3)
	fails(t, "x (1)) 3 4", api.ErrWant, 6)
	fails(t, "state(1)", api.ErrWant, 6)
	fails(t, "1(2)", api.ErrWant, 2)
	fails(t, "f(1)(2)", api.ErrWant, 5)
	fails(t, "- 1", api.ErrWant, 1)
	fails(t, "~x", api.ErrWant, 2)
	fails(t, "~~1", api.ErrWant, 2)
	fails(t, "~(1)", api.ErrWant, 2)
	fails(t, "~", api.ErrWant, 2)
	fails(t, "1 +", api.ErrWant, 4)
	fails(t, "1 + * 2", api.ErrWant, 5)
	fails(t, "a < b < c", api.ErrWant, 7)
	fails(t, "a == b <= c", api.ErrWant, 8)
	fails(t, "a = b", api.ErrWant, 3)
	fails(t, "a -> b", api.ErrWant, 3)
	fails(t, "a | b", api.ErrWant, 3)
	fails(t, "a : int", api.ErrWant, 3)
	fails(t, "_", api.ErrWant, 1)
	fails(t, "1 + let x = 1 in x", api.ErrWant, 5)
	fails(t, "1 * if 1 then 2 else 3", api.ErrWant, 5)
	fails(t, "let X = 1 in 2", api.ErrWant, 5)
	fails(t, "let state = 1 in 2", api.ErrWant, 5)
	fails(t, "let _ = 1 in 2", api.ErrWant, 5)
	fails(t, "let x 1 in 2", api.ErrWant, 7)
	fails(t, "let x = 1 2", api.ErrWant, 11)
	fails(t, "let x = 1 in", api.ErrWant, 13)
	fails(t, "if 1 else 2", api.ErrWant, 6)
	fails(t, "if 1 then 2", api.ErrWant, 12)
	fails(t, "if 1 then 2 end", api.ErrWant, 13)
	fails(t, "match x with end", api.ErrWant, 14)
	fails(t, "match x with | end", api.ErrWant, 16)
	fails(t, "match x with | | 1 -> 1 end", api.ErrWant, 16)
	fails(t, "match x with 1 -> 1 | end", api.ErrWant, 23)
	fails(t, "match x with 1 -> 1", api.ErrWant, 20)
	fails(t, "match x with 1 -> 1 1 -> 1 end", api.ErrWant, 21)
	fails(t, "match x 1 -> 1 end", api.ErrWant, 9)
	fails(t, "match x with 1 = 1 end", api.ErrWant, 16)
	fails(t, "match x with \"a\" -> 1 end", api.ErrWant, 14)
	fails(t, "match x with state -> 1 end", api.ErrWant, 14)
	fails(t, "match x with f(y) -> 1 end", api.ErrWant, 15)
	fails(t, "match x with 1 + 1 -> 1 end", api.ErrWant, 16)
	fails(t, "match x with ~y -> 1 end", api.ErrWant, 15)
	fails(t, "match x with () -> 1 end", api.ErrWant, 15)
	fails(t, "match x with A() -> 1 end", api.ErrWant, 16)
	fails(t, "match x with (y z) -> 1 end", api.ErrWant, 17)
	fails(t, "for x with k = 1 do k", api.ErrWant, 5)
	fails(t, "for ~1 with k = 1 do k", api.ErrWant, 5)
	fails(t, "for 1 k = 1 do k", api.ErrWant, 7)
	fails(t, "for 1 with K = 1 do k", api.ErrWant, 12)
	fails(t, "for 1 with k = 1 in k", api.ErrWant, 18)
	fails(t, "type", api.ErrWant, 1)
	fails(t, "x queue 1", api.ErrWant, 3)
}

// P5.2
func TestTypesThatAreNone(t *testing.T) {
	for src, col := range map[string]int{
		"": 1, "Int": 1, "1": 1, "int int": 5, "int * int": 5, "(int)": 5, "((int))": 6, "()": 2, "(int": 5, "(int *": 7, "(int * )": 8, "(int * int": 11,
		"(int , int)": 6, "(int * int))": 12, "state": 1, "\"a\"": 1, "(int * (int * int)": 19, "(int * Int)": 8, "list of int": 6, "_": 1, "int()": 4, "(int*int*": 10,
	} {
		failsType(t, src, api.ErrWant, col)
	}
}

// P5.1
func TestDeclarationsThatAreNone(t *testing.T) {
	for src, col := range map[string]int{
		"x": 1, "queue": 6, "queue x": 7, "queue ~1": 7, "queue 1 2": 9, "timers": 7, "timers (1)": 8, "let x = 1 in x": 1, "of": 1, "end": 1, "(": 1, "=": 1, "1": 1,
		"type": 5, "type T = A": 6, "type t A": 8, "type t =": 9, "type t = a": 10, "type t = | A": 10, "type t = A |": 13, "type t = A | b": 14, "type t = A of": 14,
		"type t = A of Int": 15, "type t = A of int *": 20, "type t = A of int , int": 19, "type t = A int": 12, "type t = A(int)": 11, "type t = A of int | B of": 25,
		"type t (a : int) = A": 8, "type state = A": 6,
		"fun": 4, "fun F(x : int) : int = x": 5, "fun f() : int = 1": 7, "fun f : int = 1": 7, "fun f(x) : int = 1": 8, "fun f(x : int,) : int = x": 15, "fun f(X : int) : int = 1": 7,
		"fun f(x : int y : int) : int = x": 15, "fun f(x : int) = x": 16, "fun f(x : int) : int x": 22, "fun f(x : int) : int =": 23, "fun f(x : int cap 1) : int = x": 15,
		"fun state(x : int) : int = x": 5, "fun f(x : int) : int = x x": 26,
		"state": 6, "state = 1": 7, "state int = 1": 11, "state int cap = 1": 15, "state int cap x = 1": 15, "state int cap 1 1": 17, "state int cap 1 =": 18, "state 1 cap 1 = 1": 7,
		"on": 3, "on F(x : int cap 1) = 1": 4, "on f = 1": 6, "on f() = 1": 6, "on f(x : int) = 1": 13, "on f(x cap 1) = 1": 8, "on f(x : int cap 1, y : int cap 1) = 1": 19,
		"on f(x : int cap) = 1": 17, "on f(x : int cap 1 = 1": 20, "on f(x : int cap 1) : int = 1": 21, "on f(x : int cap 1)": 20, "on f(x : int cap 1) =": 22, "on type(x : int cap 1) = 1": 4,
	} {
		failsProg(t, src, api.ErrWant, 1, col)
		failsProg(t, "fun f(x : int) : int = 1\n "+src, api.ErrWant, 2, col+1)
	}
}

// P5.1: a second one, and names that are the language's own
func TestErrTwice(t *testing.T) {
	failsProg(t, "queue 1 queue 2", api.ErrTwice, 1, 9)
	failsProg(t, "queue 1 queue 99", api.ErrTwice, 1, 9)
	failsProg(t, "queue 1 queue", api.ErrTwice, 1, 9)
	failsProg(t, "queue 1\nqueue queue queue", api.ErrTwice, 2, 1)
	failsProg(t, "timers 0 timers 0", api.ErrTwice, 1, 10)
	failsProg(t, "timers 1 queue 1 timers x", api.ErrTwice, 1, 18)
	failsProg(t, "state int cap 0 = 0 state int cap 0 = 0", api.ErrTwice, 1, 21)
	failsProg(t, "state int cap 0 = state state", api.ErrTwice, 1, 25)
	failsProg(t, "state int cap 0 = 0 queue 1 state", api.ErrTwice, 1, 29)
	for _, name := range []string{"int", "bytes"} {
		failsProg(t, "type "+name+" = A", api.ErrTwice, 1, 6)
		failsProg(t, "type "+name+" x", api.ErrTwice, 1, 6)
		failsProg(t, "type "+name, api.ErrTwice, 1, 6)
	}
	for _, name := range []string{"int", "bytes", "len", "at", "cat", "cut"} {
		failsProg(t, "fun "+name+"(x : int) : int = x", api.ErrTwice, 1, 5)
		failsProg(t, "fun "+name, api.ErrTwice, 1, 5)
		failsProg(t, "fun "+name+" = ", api.ErrTwice, 1, 5)
		src := "queue 1 state int cap 0 = " + name + " on " + name + "(" + name + " : int cap 0) = match 1 with " + name + " -> for 1 with " + name + " = 1 do 1 end"
		if p, fault := parse.Parse(src); fault != (api.Fault{}) || p.Hands[0].Name != name || p.Hands[0].Param.Name != name || p.Hands[0].Body.Arms[0].Body.Name != name {
			t.Errorf("Parse(%s): %v: a handler, a parameter, a variable may have that name", clip(src), fault)
		}
	}
	for _, name := range []string{"len", "at", "cat", "cut", "bool", "act", "ints", "byte"} {
		if p, fault := parse.Parse("queue 1 state int cap 0 = 0 type " + name + " = A"); fault != (api.Fault{}) || p.Datas[0].Name != name {
			t.Errorf("a type may be named %s: %v", name, fault)
		}
	}
	for _, name := range []string{"bool", "act", "lens", "le", "state1"} {
		if p, fault := parse.Parse("queue 1 state int cap 0 = 0 fun " + name + "(x : int) : int = 1"); fault != (api.Fault{}) || p.Funs[0].Name != name {
			t.Errorf("a function may be named %s: %v", name, fault)
		}
	}
}

// P5.1, P5.2: each number at its limits, and one beyond
func TestErrRange(t *testing.T) {
	for _, r := range []struct {
		ahead, behind string
		least, most   int
		told          func(p api.Prog) int
	}{
		{"state int cap 0 = 0 queue ", "", 1, 32, func(p api.Prog) int { return p.Queue }},
		{"queue 1 state int cap 0 = 0 timers ", "", 0, 32, func(p api.Prog) int { return p.Timers }},
		{"queue 1 state int cap ", " = 0", 0, 256, func(p api.Prog) int { return p.Cap }},
		{"queue 1 state int cap 0 = 0 on f(x : int cap ", ") = x", 0, 64, func(p api.Prog) int { return p.Hands[0].Cap }},
		{"queue 1 state int cap 0 = for ", " with x = 1 do x", 0, 1000, func(p api.Prog) int { return int(p.Init.Num) }},
	} {
		for n := range 1100 {
			src := r.ahead + strconv.Itoa(n) + r.behind
			if n < r.least || n > r.most {
				failsProg(t, src, api.ErrRange, 1, len(r.ahead)+1)
			} else if p, fault := parse.Parse(src); fault != (api.Fault{}) || r.told(p) != n || !ast.Fit(p) {
				t.Fatalf("Parse(%s): %v, %s", clip(src), fault, short(p))
			}
		}
		for _, n := range []string{"4294967296", "4294967297", "18014398509481985", "4611686018427387903"} {
			failsProg(t, r.ahead+n+r.behind, api.ErrRange, 1, len(r.ahead)+1)
			failsProg(t, r.ahead+n+" ) ) (", api.ErrRange, 1, len(r.ahead)+1)
		}
		failsProg(t, r.ahead+"~1"+r.behind, api.ErrWant, 1, len(r.ahead)+1)
	}
}

// P5.1, P5.2
func TestErrName(t *testing.T) {
	for _, name := range []string{"int", "bytes"} {
		fails(t, name+"(1)", api.ErrName, 1)
		fails(t, name+" ( )", api.ErrName, 1)
		fails(t, name+"(1, 2 3", api.ErrName, 1)
		fails(t, "1 + "+name+"("+name+"(1))", api.ErrName, 5)
		fails(t, "f("+name+", "+name+"(1))", api.ErrName, 5+len(name))
		fails(t, "x "+name+"(1)", api.ErrWant, 3)
		fails(t, "match x with "+name+"(y) -> 1 end", api.ErrWant, 14+len(name))
		failsType(t, name+"(1)", api.ErrWant, 1+len(name))
		failsProg(t, "state "+name+"(1)", api.ErrWant, 1, 7+len(name))
		failsProg(t, "state int cap 0 = "+name+"(", api.ErrName, 1, 19)
	}
}

// P5.1, P5.2: told when all of the call is read, ahead of what is wrong behind it
func TestErrCount(t *testing.T) {
	for name, want := range map[string]int{"len": 1, "at": 2, "cat": 2, "cut": 3} {
		for count := 1; count <= 6; count++ {
			src := name + "(" + strings.Repeat("1,", count-1) + "1)"
			if count == want {
				if e, fault := parse.Expr(src); fault != (api.Fault{}) || e.Kind != api.ExOp || len(e.Kids) != count {
					t.Errorf("Expr(%s): %s, %v", src, short(e), fault)
				}
				continue
			}
			fails(t, src, api.ErrCount, 1)
			fails(t, "1 + "+src, api.ErrCount, 5)
			fails(t, src+" 1", api.ErrCount, 1)
			fails(t, src+"(", api.ErrCount, 1)
			fails(t, src+" + int(1)", api.ErrCount, 1)
			fails(t, "f(1, "+src+" 1", api.ErrCount, 6)
			fails(t, "("+src+" + ", api.ErrCount, 2)
			fails(t, strings.TrimSuffix(src, ")"), api.ErrWant, len(src))
			fails(t, strings.TrimSuffix(src, ")")+" 1)", api.ErrWant, len(src)+1)
			fails(t, strings.TrimSuffix(src, "1)")+"int(1))", api.ErrName, len(src)-1)
			fails(t, "f("+src+", "+src+")", api.ErrCount, 3)
			fails(t, name+"("+strings.Repeat(src+",", count-1)+src+")", api.ErrCount, len(name)+2)
			fails(t, "match x with _ -> "+src+" end", api.ErrCount, 19)
			failsProg(t, "fun f(x : int) : int = "+src, api.ErrCount, 1, 24)
			failsProg(t, "on f(x : int cap 0) =\n "+src, api.ErrCount, 2, 2)
			failsProg(t, "state int cap 0 = "+src, api.ErrCount, 1, 19)
			failsProg(t, "state int cap 0 = "+src+" queue 0", api.ErrCount, 1, 19)
			failsProg(t, "queue 1 state int cap 0 = "+src+" queue 2", api.ErrCount, 1, 27)
			failsProg(t, "queue 0 state int cap 0 = "+src, api.ErrRange, 1, 7)
			failsProg(t, "fun f(x : int) : int = "+src+" type", api.ErrCount, 1, 24)
		}
		fails(t, name+"()", api.ErrWant, len(name)+2)
		fails(t, name+"(1,1,1,1,1,1,1)", api.ErrMany, len(name)+14)
		fails(t, name+"(1,1,1,1,1,1,)", api.ErrWant, len(name)+14)
	}
	fails(t, "len(at(1), 2)", api.ErrCount, 5)
	fails(t, "at(len(1, 2), e", api.ErrCount, 4)
	fails(t, "len(1, 2, at(1, 2), cut(1))", api.ErrCount, 21)
	fails(t, "len(at(1))", api.ErrCount, 5)
	fails(t, "(at(1), len(1, 2))", api.ErrCount, 2)
}

// P5.1: told at the end, when nothing else is wrong
func TestErrMiss(t *testing.T) {
	failsProg(t, "", api.ErrMiss, 1, 1)
	failsProg(t, " \n #", api.ErrMiss, 2, 3)
	failsProg(t, "queue 1", api.ErrMiss, 1, 8)
	failsProg(t, "queue 1\n", api.ErrMiss, 2, 1)
	failsProg(t, "state int cap 0 = 0", api.ErrMiss, 1, 20)
	failsProg(t, "timers 1", api.ErrMiss, 1, 9)
	failsProg(t, "type t = A", api.ErrMiss, 1, 11)
	failsProg(t, "state int cap 0 = 0 timers 1 type t = A", api.ErrMiss, 1, 40)
	failsProg(t, "on f(x : int cap 0) = state queue 1", api.ErrMiss, 1, 36)
	failsProg(t, "timers 0 queue 0", api.ErrRange, 1, 16)
	failsProg(t, "fun f(x : int) : int = len(1, 2)", api.ErrCount, 1, 24)
	readsProg(t, "state int cap 0 = 0 queue 1", api.Prog{Queue: 1, Init: num(19, 0)})
}

// many is a part, with its number put in for #, so often.
func many(count int, part, between string) string {
	var l []string
	for i := range count {
		l = append(l, strings.ReplaceAll(part, "#", strconv.Itoa(i)))
	}
	return strings.Join(l, between)
}

// P5.1, P5.2: just as many as may be, and one more, which is told where it begins, if it begins
func TestErrMany(t *testing.T) {
	const rest = "queue 1 state int cap 0 = 0\n"
	for _, r := range []struct {
		ahead, part, between, behind string
		most                         int
		count                        func(p api.Prog) int
	}{
		{rest, "type t# = A", " ", "", 32, func(p api.Prog) int { return len(p.Datas) }},
		{rest, "fun f#(x : int) : int = x", " ", "", 48, func(p api.Prog) int { return len(p.Funs) }},
		{rest, "on f#(x : int cap 0) = x", " ", "", 16, func(p api.Prog) int { return len(p.Hands) }},
		{rest + "type t = ", "A#", " | ", "", 16, func(p api.Prog) int { return len(p.Datas[0].Cons) }},
		{rest + "type t = ", "A# of int", " | ", "", 16, func(p api.Prog) int { return len(p.Datas[0].Cons) }},
		{rest + "type t = A of ", "int", " * ", "", 6, func(p api.Prog) int { return len(p.Datas[0].Cons[0].Fields) }},
		{rest + "type t = A of ", "(int*int)", " * ", " | B", 6, func(p api.Prog) int { return len(p.Datas[0].Cons[0].Fields) }},
		{rest + "type t = A of (", "t#", " * ", ")", 6, func(p api.Prog) int { return len(p.Datas[0].Cons[0].Fields[0].Parts) }},
		{rest + "fun f(", "x# : int", ", ", ") : int = 1", 6, func(p api.Prog) int { return len(p.Funs[0].Params) }},
		{"queue 1 state (", "int", " * ", ") cap 0 = 0", 6, func(p api.Prog) int { return len(p.State.Parts) }},
		{"queue 1 state int cap 0 = match x with ", "# -> A", " | ", " end", 32, func(p api.Prog) int { return len(p.Init.Arms) }},
		{"queue 1 state int cap 0 = match x with | ", "(_, x) -> A", " | ", " end", 32, func(p api.Prog) int { return len(p.Init.Arms) }},
		{"queue 1 state int cap 0 = match x with ", "~1 -> A", " | ", " end", 32, func(p api.Prog) int { return len(p.Init.Arms) }},
		{"queue 1 state int cap 0 = f(", "x#", ", ", ")", 6, func(p api.Prog) int { return len(p.Init.Kids) }},
		{"queue 1 state int cap 0 = F(", "(x#, 2)", ", ", ")", 6, func(p api.Prog) int { return len(p.Init.Kids) }},
		{"queue 1 state int cap 0 = (", "let x# = 1 in 2", ", ", ")", 6, func(p api.Prog) int { return len(p.Init.Kids) }},
		{"queue 1 state int cap 0 = (", "~ 1", ", ", ")", 6, func(p api.Prog) int { return len(p.Init.Kids) }},
		{"queue 1 state int cap 0 = match 1 with A(", "_", ", ", ") -> 1 end", 6, func(p api.Prog) int { return len(p.Init.Arms[0].Pat.Kids) }},
		{"queue 1 state int cap 0 = match 1 with (", "B(x#)", ", ", ") -> 1 end", 6, func(p api.Prog) int { return len(p.Init.Arms[0].Pat.Kids) }},
	} {
		for _, count := range []int{r.most - 1, r.most} {
			src := r.ahead + many(count, r.part, r.between) + r.behind
			if p, fault := parse.Parse(src); fault != (api.Fault{}) || r.count(p) != count || !ast.Fit(p) {
				t.Fatalf("Parse(%s): %v, %s", clip(src), fault, short(p))
			}
		}
		upTo := r.ahead + many(r.most, r.part, r.between) + r.between
		line, col := 1, len(upTo)+1
		if at := strings.LastIndex(upTo, "\n"); at >= 0 {
			line, col = 2, len(upTo)-at
		}
		failsProg(t, r.ahead+many(r.most+1, r.part, r.between)+r.behind, api.ErrMany, line, col)
		failsProg(t, r.ahead+many(3*r.most, r.part, r.between)+r.behind, api.ErrMany, line, col)
		failsProg(t, upTo+tokensOf(many(1, r.part, ""))[0], api.ErrMany, line, col)
		failsProg(t, upTo+"=", api.ErrWant, line, col)
		if r.between != " " {
			failsProg(t, upTo, api.ErrWant, line, col)
		}
	}
	fails(t, "f(1, 2, 3, 4, 5, 6, int(7))", api.ErrMany, 21)
	fails(t, "f(1, 2, 3, 4, 5, 6, f(f(", api.ErrMany, 21)
	fails(t, "f(1, 2, 3, 4, 5, 6, in", api.ErrWant, 21)
	fails(t, "f(1, (1, 2, 3, 4, 5, 6), 3, (1, 2, 3, 4, 5, 6), 5, 6, 7)", api.ErrMany, 55)
	failsType(t, "(int*int*int*int*int*(int*int*int*int*int*int*int))", api.ErrMany, 47)
}

// P5.1, P5.2: of several the first one from the left
func TestTheFirstFromTheLeft(t *testing.T) {
	wrong := []struct {
		src string
		err api.Errno
		col int
	}{
		{"1 )", api.ErrWant, 3}, {"f(1,2,3,4,5,6,7)", api.ErrMany, 15}, {"for 1001 with x = 1 do 1", api.ErrRange, 5}, {"int(1)", api.ErrName, 1},
		{"Nil()", api.ErrWant, 5}, {"(cut(1)", api.ErrCount, 2}, {"f(len(1, 2)", api.ErrCount, 3}, {nest(65, "f(", "1", ")"), api.ErrDeep, 3},
	}
	for _, a := range wrong {
		for _, b := range wrong {
			fails(t, "let x = "+a.src+" in "+b.src, a.err, a.col+8)
			failsProg(t, "state int cap 0 = "+a.src+" on f(x : int cap 0) = "+b.src, a.err, 1, a.col+18)
			failsProg(t, "queue 1 queue\nstate int cap 0 = "+b.src, api.ErrTwice, 1, 9)
			failsProg(t, "type t = A type int\nstate int cap 0 = "+b.src, api.ErrTwice, 1, 17)
		}
		fails(t, "(len(1, 2), let x = "+a.src, api.ErrCount, 2)
		fails(t, "len(1, 2, let x = "+a.src, a.err, a.col+18)
		failsProg(t, "fun f(x : int) : int = cut(1) state int cap 0 = "+a.src, api.ErrCount, 1, 24)
		failsProg(t, "state int cap 0 = "+a.src+" on f(x : int cap 0) = cut(1)", a.err, 1, a.col+18)
	}
}

// 0.1, P5.1, P5.2: each row of few tokens, by the form itself
func TestAllShortTexts(t *testing.T) {
	g := newGrammar()
	signs := strings.Fields("( ) , | = -> + * < _ ~ x int len A 1 1001 let if match with for end state in")
	types := strings.Fields("( ) * , int bytes t A 1 of state")
	decls := strings.Fields("type fun queue timers state on x int len A 0 99 ( ) : = | of * cap ,")
	check := func(start string, words []string) {
		g.agrees(t, start, strings.Join(words, " "))
	}
	rows(signs, 3, func(l []string) { check("Expr", l) })
	rows(types, 4, func(l []string) { check("Type", l) })
	rows(decls, 3, func(l []string) { check("Prog", l) })
}

// rows tells each row of at most so many words.
func rows(words []string, most int, tell func(l []string)) {
	var from func(l []string)
	from = func(l []string) {
		tell(l)
		if len(l) < most {
			for _, w := range words {
				from(append(slices.Clip(l), w))
			}
		}
	}
	from(nil)
}

// agrees holds what a text is read as against what the form says of it.
func (g *grammar) agrees(t *testing.T, start, src string) api.Errno {
	t.Helper()
	want := g.wantFault(start, src)
	fit, none, fault := asks(start, src)
	if fault != want {
		t.Fatalf("%s(%s): fault %d at %v, want %d at %v", start, clip(src), fault.Err, fault.At, want.Err, want.At)
	}
	if want.Err == api.OK && !fit || want.Err != api.OK && !none {
		t.Fatalf("%s(%s): not fit, or something beside the fault %d", start, clip(src), want.Err)
	}
	return want.Err
}

func asks(start, src string) (fit, none bool, fault api.Fault) {
	switch start {
	case "Expr":
		e, fault := parse.Expr(src)
		return ast.FitExpr(e), reflect.DeepEqual(e, api.Expr{}), fault
	case "Type":
		ty, fault := parse.Type(src)
		return ast.FitType(ty), reflect.DeepEqual(ty, api.Type{}), fault
	}
	p, fault := parse.Parse(src)
	return ast.Fit(p), reflect.DeepEqual(p, api.Prog{}), fault
}

// P5.1, P5.2: sentences of the form, and such with a token more, less, in another place, or another one
func TestSentencesAndNearlySuch(t *testing.T) {
	g := newGrammar()
	s := sower(2463534242)
	met := map[api.Errno]int{}
	for i := range 6000 {
		start := pick(&s, "Prog", "Prog", "Expr", "Type", "Expr")
		l := g.sentence(&s, start, i%60)
		if start == "Prog" && i%3 > 0 {
			l = append(tokensOf("queue 1 state int cap 0 = x"), l...)
		}
		if len(l) > 150 {
			continue
		}
		met[g.agrees(t, start, strings.Join(l, " "))]++
		for range 4 {
			met[g.agrees(t, start, strings.Join(nearly(&s, l), " "))]++
		}
	}
	for _, err := range []api.Errno{api.OK, api.ErrWant, api.ErrMany, api.ErrTwice, api.ErrRange, api.ErrName, api.ErrCount, api.ErrMiss} {
		if met[err] < 10 {
			t.Errorf("the fault %d was met %d times alone", err, met[err])
		}
	}
}

// nearly is a row of tokens with one change.
func nearly(s *sower, l []string) []string {
	all := strings.Fields("( ) , | = : + * < _ ~ -> let in if then else match with end for do type of fun queue timers state on cap x int len A 1 99 \"a\"")
	l = slices.Clone(l)
	if len(l) == 0 {
		return []string{pick(s, all...)}
	}
	i, j := s.below(len(l)), s.below(len(l))
	switch s.below(5) {
	case 0:
		return slices.Delete(l, i, i+1)
	case 1:
		return slices.Insert(l, i, pick(s, all...))
	case 2:
		l[i] = pick(s, all...)
	case 3:
		l[i], l[j] = l[j], l[i]
	case 4:
		from, to := min(i, j), min(max(i, j), min(i, j)+12)
		return slices.Insert(l, to, slices.Clone(l[from:to])...)
	}
	return l
}
