package parse_test

import (
	"reflect"
	"strings"
	"testing"

	"handloom/api"
	"handloom/ast"
	"handloom/parse"
)

// nest writes a part around another one, so often.
func nest(count int, ahead, inner, behind string) string {
	return strings.Repeat(ahead, count) + inner + strings.Repeat(behind, count)
}

// tooDeep is where the inmost part that is too deep begins, in a text that goes on at a column by parts of that length ahead of their inner ones.
func tooDeep(col, depth int, ahead string) int { return col + (depth-api.MaxDepth-1)*len(ahead) }

// P5.2: just as deep as may be, and deeper: told of the first one that is read whole, ahead of what is wrong behind it
func TestErrDeepOfExprs(t *testing.T) {
	for _, r := range []struct{ ahead, inner, behind string }{
		{"f(", "1", ")"}, {"A(", "1", ")"}, {"(1, ", "1", ")"}, {"let x = 1 in ", "1", ""}, {"let x = ", "1", " in 1"},
		{"if 1 then 2 else ", "1", ""}, {"if 1 then ", "1", " else 2"}, {"if ", "1", " then 2 else 3"},
		{"match ", "x", " with _ -> 1 end"}, {"match x with _ -> ", "1", " end"}, {"match x with 1 -> 2 | _ -> ", "1", " end"},
		{"for 1 with x = ", "1", " do 1"}, {"for 1 with x = 1 do ", "1", ""}, {"len(", "1", ")"}, {"cut(1, ", "1", ", 2)"}, {"cat(", "1", ", 2)"},
	} {
		for _, depth := range []int{63, 64} {
			e, fault := parse.Expr(nest(depth-1, r.ahead, r.inner, r.behind))
			if fault != (api.Fault{}) || !ast.FitExpr(e) {
				t.Fatalf("%d of %s: %v", depth, r.ahead, fault)
			}
		}
		for _, depth := range []int{65, 66, 70, 200} {
			src := nest(depth-1, r.ahead, r.inner, r.behind)
			fails(t, src, api.ErrDeep, tooDeep(1, depth, r.ahead))
			fails(t, src+" )", api.ErrDeep, tooDeep(1, depth, r.ahead))
			fails(t, "("+src+") + int(", api.ErrDeep, tooDeep(2, depth, r.ahead))
			fails(t, "("+src+")", api.ErrDeep, tooDeep(2, depth, r.ahead))
			fails(t, "("+src+", ", api.ErrDeep, tooDeep(2, depth, r.ahead))
			fails(t, "(len(1, "+src+"), 1)", api.ErrDeep, tooDeep(9, depth, r.ahead))
			failsProg(t, "fun f(x : int) : int =\n  "+src+" queue queue", api.ErrDeep, 2, tooDeep(3, depth, r.ahead))
			if r.behind != "" {
				open := strings.Repeat(r.ahead, depth-1) + r.inner + strings.Repeat(r.behind, api.MaxDepth-1)
				fails(t, open, api.ErrWant, len(open)+1)
				fails(t, open+r.behind, api.ErrDeep, tooDeep(1, depth, r.ahead))
			}
		}
		just := nest(63, r.ahead, r.inner, r.behind)
		fails(t, "("+just+", 1)", api.ErrDeep, 1)
		fails(t, "("+just+", 1", api.ErrWant, len(just)+5)
		fails(t, "("+just+", 1 2)", api.ErrWant, len(just)+6)
	}
}

// P5.2: parentheses round one alone add nothing, however many
func TestParenthesesAreNotDeep(t *testing.T) {
	reads(t, nest(2000, "(", "x", ")"), variable(2001, "x"))
	e, fault := parse.Expr("match x with " + nest(1500, "(", "y", ")") + " -> 1 end")
	if fault != (api.Fault{}) || !reflect.DeepEqual(e.Arms[0].Pat, varPat(1514, "y")) {
		t.Errorf("a pattern in many parentheses: %s, %v", short(e), fault)
	}
	fails(t, nest(2000, "(", "x", ")")+")", api.ErrWant, 4002)
	fails(t, strings.Repeat("(", 4095), api.ErrWant, 4096)
	fails(t, strings.Repeat("let x = ", 1000), api.ErrWant, 8001)
}

// P5.2: a chain of operators is as deep as it is long; what is too deep first is told at its sign, as soon as what is on its right is read
func TestErrDeepOfChains(t *testing.T) {
	for _, sign := range []string{"+", "-", "*", "/", "%"} {
		for _, count := range []int{1, 62, 63} {
			e, fault := parse.Expr("1" + strings.Repeat(sign+"1", count))
			if fault != (api.Fault{}) || !ast.FitExpr(e) || e.At.Col != 2*count {
				t.Fatalf("%d times %s: %v", count, sign, fault)
			}
		}
		fails(t, "1"+strings.Repeat(sign+"1", 64), api.ErrDeep, 128)
		fails(t, "1"+strings.Repeat(sign+"1", 65), api.ErrDeep, 128)
		fails(t, "1"+strings.Repeat(sign+"1", 1000), api.ErrDeep, 128)
		fails(t, "1"+strings.Repeat(sign+"1", 64)+" 1", api.ErrDeep, 128)
		fails(t, "1"+strings.Repeat(sign+"1", 64)+sign, api.ErrDeep, 128)
		fails(t, "1"+strings.Repeat(sign+"1", 63)+sign, api.ErrWant, 129)
		fails(t, "1"+strings.Repeat(sign+"1", 63)+sign+"int(1)", api.ErrName, 129)
		fails(t, "1"+strings.Repeat(sign+"1", 63)+sign+"len(1, 2)", api.ErrCount, 129)
		fails(t, "1"+strings.Repeat(sign+"1", 63)+"<1", api.ErrDeep, 128)
		fails(t, "1<1"+strings.Repeat(sign+"1", 63), api.ErrDeep, 2)
		fails(t, "f(1"+strings.Repeat(sign+"1", 63)+")", api.ErrDeep, 1)
		for _, count := range []int{64, 65, 80} {
			fails(t, nest(count, "1"+sign+"(", "1", ")"), api.ErrDeep, tooDeep(2, count+1, "1"+sign+"("))
		}
	}
	if _, fault := parse.Expr("1" + strings.Repeat("+1*1", 62)); fault != (api.Fault{}) {
		t.Errorf("a sum of 63: %v", fault)
	}
	fails(t, "1*1"+strings.Repeat("+1", 63), api.ErrDeep, 128)
}

// P5.1, P5.2: patterns count in their match, which is deeper than they are; a pattern that is too deep by itself is told ahead of its match
func TestErrDeepOfPatterns(t *testing.T) {
	for _, r := range []struct{ ahead, inner, behind string }{{"A(", "_", ")"}, {"(1, ", "x", ")"}, {"(", "~1", ", _)"}, {"B(_, ", "A", ", 2)"}} {
		pat := func(depth int) string { return nest(depth-1, r.ahead, r.inner, r.behind) }
		for _, depth := range []int{62, 63} {
			e, fault := parse.Expr("match x with " + pat(depth) + " -> 1 end")
			if fault != (api.Fault{}) || !ast.FitExpr(e) {
				t.Fatalf("%d of %s: %v", depth, r.ahead, fault)
			}
		}
		for _, depth := range []int{65, 66, 100} {
			fails(t, "match x with "+pat(depth)+" -> 1 end", api.ErrDeep, tooDeep(14, depth, r.ahead))
			fails(t, "match x with _ -> 1 | ("+pat(depth)+") -> 1 end", api.ErrDeep, tooDeep(24, depth, r.ahead))
			fails(t, "match x with "+pat(depth)+" -> len(1, 2) end", api.ErrDeep, tooDeep(14, depth, r.ahead))
			fails(t, "match x with "+pat(depth)+" 1", api.ErrDeep, tooDeep(14, depth, r.ahead))
			fails(t, "match len(1, 2) with "+pat(depth)+" 1", api.ErrCount, 7)
			open := "match x with " + strings.Repeat(r.ahead, depth-1) + r.inner + strings.Repeat(r.behind, 63)
			fails(t, open, api.ErrWant, len(open)+1)
		}
		fails(t, "match x with "+pat(64)+" -> 1 end", api.ErrDeep, 1)
		fails(t, "match x with _ -> 1 | "+pat(64)+" -> 1 end e", api.ErrDeep, 1)
		fails(t, "match x with "+pat(64)+" -> end", api.ErrWant, 14+len(pat(64))+4)
		fails(t, "match x with "+pat(64)+" -> 1", api.ErrWant, 14+len(pat(64))+5)
		fails(t, "match x with "+pat(64)+" -> len(1, 2) end", api.ErrCount, 14+len(pat(64))+4)
		fails(t, "1 + (match x with "+pat(64)+" -> 1 end) e", api.ErrDeep, 6)
		fails(t, "(match x with "+pat(63)+" -> 1 end, 2)", api.ErrDeep, 1)
		fails(t, "(match x with "+pat(64)+" -> 1 end)", api.ErrDeep, 2)
	}
}

// P5.1, P5.2
func TestErrDeepOfTypes(t *testing.T) {
	for _, r := range []struct{ ahead, behind string }{{"(int * ", ")"}, {"(", " * t)"}, {"(int * ", " * bytes)"}} {
		typ := func(depth int) string { return nest(depth-1, r.ahead, "int", r.behind) }
		for _, depth := range []int{1, 63, 64} {
			ty, fault := parse.Type(typ(depth))
			if fault != (api.Fault{}) || !ast.FitType(ty) {
				t.Fatalf("%d of %s: %v", depth, r.ahead, fault)
			}
		}
		for _, depth := range []int{65, 66, 100} {
			failsType(t, " "+typ(depth), api.ErrDeep, tooDeep(2, depth, r.ahead))
			failsType(t, typ(depth)+" int", api.ErrDeep, tooDeep(1, depth, r.ahead))
			failsProg(t, "state "+typ(depth)+" cap 0 = 0", api.ErrDeep, 1, tooDeep(7, depth, r.ahead))
			failsProg(t, "state "+typ(depth)+" cap 999 = 0", api.ErrDeep, 1, tooDeep(7, depth, r.ahead))
			failsProg(t, "type t = A of int * "+typ(depth), api.ErrDeep, 1, tooDeep(21, depth, r.ahead))
			failsProg(t, "type t = A of int * "+typ(depth)+" * type", api.ErrDeep, 1, tooDeep(21, depth, r.ahead))
			failsProg(t, "fun f(x : "+typ(depth)+") : int = 1", api.ErrDeep, 1, tooDeep(11, depth, r.ahead))
			failsProg(t, "fun f(x : int, y : "+typ(depth)+" ) 1", api.ErrDeep, 1, tooDeep(20, depth, r.ahead))
			failsProg(t, "fun f(x : int) : "+typ(depth)+" = 1", api.ErrDeep, 1, tooDeep(18, depth, r.ahead))
			failsProg(t, "on f(x : "+typ(depth)+" cap 0) = 1", api.ErrDeep, 1, tooDeep(10, depth, r.ahead))
			failsProg(t, "on f(x : "+typ(depth)+" cap 65) = 1", api.ErrDeep, 1, tooDeep(10, depth, r.ahead))
			open := strings.Repeat(r.ahead, depth-1) + "int" + strings.Repeat(r.behind, 63)
			failsType(t, open, api.ErrWant, len(open)+1)
			failsType(t, open+r.behind, api.ErrDeep, tooDeep(1, depth, r.ahead))
		}
		failsProg(t, "on f(x : "+typ(64)+" cap 65) = 1", api.ErrRange, 1, len(typ(64))+15)
		failsType(t, typ(64)+" int", api.ErrWant, len(typ(64))+2)
	}
}

// P5.1: of what is told when all of a part is read, the first part that ends; of one part its count ahead of its depth
func TestTheFirstThatIsReadWhole(t *testing.T) {
	deep, count := nest(64, "f(", "1", ")"), "len(1, 2)"
	fails(t, "("+deep+", "+count+")", api.ErrDeep, 2)
	fails(t, "let x = "+deep+" in "+count, api.ErrDeep, 9)
	fails(t, count+" + "+deep, api.ErrCount, 1)
	fails(t, "len("+deep+", 1)", api.ErrDeep, 5)
	fails(t, "len("+nest(63, "f(", "1", ")")+", 1)", api.ErrCount, 1)
	fails(t, "len("+nest(63, "f(", "1", ")")+")", api.ErrDeep, 1)
	fails(t, "len("+nest(63, "f(", "1", ")")+", 1", api.ErrWant, 5+63*3+4)
	fails(t, nest(64, "f(", count, ")"), api.ErrCount, 129)
	fails(t, nest(64, "f(", count, ")")+" + "+count, api.ErrCount, 129)
	fails(t, nest(64, "f(", "1", ", "+count+")"), api.ErrCount, 132)
	fails(t, count+strings.Repeat("+1", 70), api.ErrCount, 1)
	fails(t, strings.Repeat("1+", 70)+count, api.ErrDeep, 128)
	failsProg(t, "fun f(x : int) : int = "+count+" fun g(x : int) : int = "+deep, api.ErrCount, 1, 24)
	failsProg(t, "fun f(x : int) : int = "+deep+" fun g(x : int) : int = "+count, api.ErrDeep, 1, 24)
	failsProg(t, "fun f(x : int) : int = 1\n"+strings.Repeat(" ", 40)+"state int cap 0 =\n "+deep+" on g(x : int cap 0) = "+count, api.ErrDeep, 3, 2)
	failsProg(t, "fun f(x : int) : "+nest(64, "(int * ", "int", ")")+" = "+count, api.ErrDeep, 1, 18)
	failsProg(t, "fun f(x : int) : int = "+count+" fun g(x : int) : "+nest(64, "(int * ", "int", ")")+" = 1", api.ErrCount, 1, 24)
	failsProg(t, "on g(x : int cap 0) = "+count+"\nqueue 1 state int cap 0 = "+count, api.ErrCount, 1, 23)
	failsProg(t, "state int cap 0 = "+deep, api.ErrDeep, 1, 19)
	failsProg(t, "state int cap 0 = "+deep+" queue 1 queue 1", api.ErrDeep, 1, 19)
	failsProg(t, "queue 1 queue 1 state int cap 0 = "+deep, api.ErrTwice, 1, 9)
}
