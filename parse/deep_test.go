package parse_test

import (
	"reflect"
	"strings"
	"testing"

	"handloom/api"
	"handloom/ast"
	"handloom/parse"
)

// nest writes a part around another one, so often.
func nest(count int, ahead, inner, behind string) string {
	return strings.Repeat(ahead, count) + inner + strings.Repeat(behind, count)
}

// P5.2: just as deep as may be, and deeper: told of the first one from the left
func TestErrDeepOfExprs(t *testing.T) {
	for _, r := range []struct{ ahead, inner, behind string }{
		{"f(", "1", ")"}, {"A(", "1", ")"}, {"(1, ", "1", ")"}, {"let x = 1 in ", "1", ""}, {"let x = ", "1", " in 1"},
		{"if 1 then 2 else ", "1", ""}, {"if 1 then ", "1", " else 2"}, {"if ", "1", " then 2 else 3"},
		{"match ", "x", " with _ -> 1 end"}, {"match x with _ -> ", "1", " end"}, {"match x with 1 -> 2 | _ -> ", "1", " end"},
		{"for 1 with x = ", "1", " do 1"}, {"for 1 with x = 1 do ", "1", ""}, {"len(", "1", ")"}, {"cut(1, ", "1", ", 2)"}, {"cat(", "1", ", 2)"},
	} {
		for _, depth := range []int{63, 64} {
			e, fault := parse.Expr(nest(depth-1, r.ahead, r.inner, r.behind))
			if fault != (api.Fault{}) || !ast.FitExpr(e) {
				t.Fatalf("%d of %s: %v", depth, r.ahead, fault)
			}
		}
		for _, depth := range []int{65, 66, 70, 200} {
			fails(t, nest(depth-1, r.ahead, r.inner, r.behind), api.ErrDeep, 1)
			fails(t, nest(depth-1, r.ahead, r.inner, r.behind)+" )", api.ErrWant, (depth-1)*len(r.ahead+r.behind)+3)
			fails(t, "("+nest(depth-1, r.ahead, r.inner, r.behind)+")", api.ErrDeep, 2)
			fails(t, "("+nest(depth-1, r.ahead, r.inner, r.behind)+", 1)", api.ErrDeep, 1)
			failsProg(t, "fun f(x : int) : int =\n  "+nest(depth-1, r.ahead, r.inner, r.behind), api.ErrDeep, 2, 3)
		}
	}
}

// P5.2: parentheses round one alone add nothing, however many
func TestParenthesesAreNotDeep(t *testing.T) {
	reads(t, nest(2000, "(", "x", ")"), variable(2001, "x"))
	e, fault := parse.Expr("match x with " + nest(1500, "(", "y", ")") + " -> 1 end")
	if fault != (api.Fault{}) || !reflect.DeepEqual(e.Arms[0].Pat, varPat(1514, "y")) {
		t.Errorf("a pattern in many parentheses: %s, %v", short(e), fault)
	}
	fails(t, nest(2000, "(", "x", ")")+")", api.ErrWant, 4002)
	fails(t, strings.Repeat("(", 4095), api.ErrWant, 4096)
	fails(t, strings.Repeat("let x = ", 1000), api.ErrWant, 8001)
}

// P5.2: a chain of operators is as deep as it is long; what is too deep first is told at its sign
func TestErrDeepOfChains(t *testing.T) {
	for _, sign := range []string{"+", "-", "*", "/", "%"} {
		for _, count := range []int{1, 62, 63} {
			e, fault := parse.Expr("1" + strings.Repeat(sign+"1", count))
			if fault != (api.Fault{}) || !ast.FitExpr(e) || e.At.Col != 2*count {
				t.Fatalf("%d times %s: %v", count, sign, fault)
			}
		}
		fails(t, "1"+strings.Repeat(sign+"1", 64), api.ErrDeep, 128)
		fails(t, "1"+strings.Repeat(sign+"1", 65), api.ErrDeep, 128)
		fails(t, "1"+strings.Repeat(sign+"1", 1000), api.ErrDeep, 128)
		fails(t, "1"+strings.Repeat(sign+"1", 63)+"<1", api.ErrDeep, 128)
		fails(t, "1<1"+strings.Repeat(sign+"1", 63), api.ErrDeep, 2)
		fails(t, "f(1"+strings.Repeat(sign+"1", 63)+")", api.ErrDeep, 1)
		fails(t, "1"+strings.Repeat(sign+"(1", 64)+strings.Repeat(")", 64), api.ErrDeep, 2)
	}
	if _, fault := parse.Expr("1" + strings.Repeat("+1*1", 62)); fault != (api.Fault{}) {
		t.Errorf("a sum of 63: %v", fault)
	}
	fails(t, "1*1"+strings.Repeat("+1", 63), api.ErrDeep, 128)
}

// P5.1, P5.2: patterns count in their match, which is deeper than they are and begins ahead of them
func TestErrDeepOfPatterns(t *testing.T) {
	for _, r := range []struct{ ahead, inner, behind string }{{"A(", "_", ")"}, {"(1, ", "x", ")"}, {"(", "~1", ", _)"}, {"B(_, ", "A", ", 2)"}} {
		pat := func(depth int) string { return nest(depth-1, r.ahead, r.inner, r.behind) }
		for _, depth := range []int{62, 63} {
			e, fault := parse.Expr("match x with " + pat(depth) + " -> 1 end")
			if fault != (api.Fault{}) || !ast.FitExpr(e) {
				t.Fatalf("%d of %s: %v", depth, r.ahead, fault)
			}
		}
		for _, depth := range []int{64, 65, 100} {
			fails(t, "match x with "+pat(depth)+" -> 1 end", api.ErrDeep, 1)
			fails(t, "match x with _ -> 1 | "+pat(depth)+" -> 1 end", api.ErrDeep, 1)
			fails(t, "match x with "+pat(depth)+" -> end", api.ErrWant, 14+len(pat(depth))+4)
		}
		fails(t, "(match x with "+pat(63)+" -> 1 end, 2)", api.ErrDeep, 1)
		fails(t, "(match x with "+pat(64)+" -> 1 end)", api.ErrDeep, 2)
	}
}

// P5.1, P5.2
func TestErrDeepOfTypes(t *testing.T) {
	for _, r := range []struct{ ahead, behind string }{{"(int * ", ")"}, {"(", " * t)"}, {"(int * ", " * bytes)"}} {
		typ := func(depth int) string { return nest(depth-1, r.ahead, "int", r.behind) }
		for _, depth := range []int{1, 63, 64} {
			ty, fault := parse.Type(typ(depth))
			if fault != (api.Fault{}) || !ast.FitType(ty) {
				t.Fatalf("%d of %s: %v", depth, r.ahead, fault)
			}
		}
		for _, depth := range []int{65, 66, 100} {
			failsType(t, " "+typ(depth), api.ErrDeep, 2)
			failsType(t, typ(depth)+" int", api.ErrWant, len(typ(depth))+2)
			failsProg(t, "state "+typ(depth)+" cap 0 = 0", api.ErrDeep, 1, 7)
			failsProg(t, "type t = A of int * "+typ(depth), api.ErrDeep, 1, 21)
			failsProg(t, "fun f(x : "+typ(depth)+") : int = 1", api.ErrDeep, 1, 11)
			failsProg(t, "fun f(x : int) : "+typ(depth)+" = 1", api.ErrDeep, 1, 18)
			failsProg(t, "on f(x : "+typ(depth)+" cap 0) = 1", api.ErrDeep, 1, 10)
			failsProg(t, "on f(x : "+typ(depth)+" cap 65) = 1", api.ErrRange, 1, len(typ(depth))+15)
		}
	}
}

// P5.1: of what is told when all is read, the first one from the left
func TestTheFirstOfWhatIsToldLate(t *testing.T) {
	deep, count := nest(64, "f(", "1", ")"), "len(1, 2)"
	fails(t, "("+deep+", "+count+")", api.ErrDeep, 1)
	fails(t, "let x = "+deep+" in "+count, api.ErrDeep, 1)
	fails(t, count+" + "+deep, api.ErrCount, 1)
	fails(t, "len("+deep+", 1)", api.ErrCount, 1)
	fails(t, nest(64, "f(", count, ")"), api.ErrDeep, 1)
	fails(t, nest(64, "f(", count, ")")+" + "+count, api.ErrDeep, 1)
	fails(t, count+strings.Repeat("+1", 70), api.ErrCount, 1)
	failsProg(t, "fun f(x : int) : int = "+count+" fun g(x : int) : int = "+deep, api.ErrCount, 1, 24)
	failsProg(t, "fun f(x : int) : int = "+deep+" fun g(x : int) : int = "+count, api.ErrDeep, 1, 24)
	failsProg(t, "fun f(x : int) : int = 1\n"+strings.Repeat(" ", 40)+"state int cap 0 =\n "+deep+" on g(x : int cap 0) = "+count, api.ErrDeep, 3, 2)
	failsProg(t, "fun f(x : int) : "+nest(64, "(int * ", "int", ")")+" = "+count, api.ErrDeep, 1, 18)
	failsProg(t, "fun f(x : int) : int = "+count+" fun g(x : int) : "+nest(64, "(int * ", "int", ")")+" = 1", api.ErrCount, 1, 24)
	failsProg(t, "on g(x : int cap 0) = "+count+"\nqueue 1 state int cap 0 = "+count, api.ErrCount, 1, 23)
	failsProg(t, "state int cap 0 = "+deep, api.ErrDeep, 1, 19)
}
