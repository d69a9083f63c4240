package show_test

import (
	"strconv"
	"strings"
	"testing"

	"handloom/api"
	"handloom/lex"
	"handloom/show"
)

// shows wants an expression's text, from the program and from the second reading.
func shows(t *testing.T, e api.Expr, want string) {
	t.Helper()
	if got := show.Expr(e); got != want || wantExpr(e) != want {
		t.Errorf("Expr(%s)\n = %q, want\n   %q; the second reading tells %q", short(e), short(got), short(want), short(wantExpr(e)))
	}
}

func showsPat(t *testing.T, p api.Pat, want string) {
	t.Helper()
	if got := show.Pat(p); got != want || wantPat(p) != want {
		t.Errorf("Pat(%s) = %q, want %q; the second reading tells %q", short(p), got, want, wantPat(p))
	}
	shows(t, match(variable("x"), arm(p, num(1)), arm(p, num(2))), "match x with "+want+" -> 1 | "+want+" -> 2 end")
}

func showsType(t *testing.T, ty api.Type, want string) {
	t.Helper()
	if got := show.Type(ty); got != want || wantType(ty) != want {
		t.Errorf("Type(%s) = %q, want %q; the second reading tells %q", short(ty), got, want, wantType(ty))
	}
}

func showsProg(t *testing.T, p api.Prog, want string) {
	t.Helper()
	if got := show.Prog(p); got != want || wantProg(p) != want {
		t.Errorf("Prog(%s)\n = %q, want\n   %q; the second reading tells\n   %q", short(p), short(got), short(want), short(wantProg(p)))
	}
}

// P6.1: the chapter's examples
func TestExamples(t *testing.T) {
	shows(t, op(api.OpMul, op(api.OpAdd, num(1), num(2)), variable("x")), "( 1 + 2 ) * x")
	showsType(t, tupleType(api.Type{}, data("list")), "( int * list )")
}

// P6.1
func TestTypesByHand(t *testing.T) {
	showsType(t, api.Type{}, "int")
	showsType(t, bytesType(), "bytes")
	showsType(t, data("é_9"), "é_9")
	showsType(t, data("len"), "len")
	showsType(t, tupleType(bytesType(), tupleType(api.Type{}, data("t")), api.Type{}), "( bytes * ( int * t ) * int )")
	showsType(t, tupleType(tupleType(api.Type{}, api.Type{}), tupleType(data("a"), data("b"))), "( ( int * int ) * ( a * b ) )")
	showsType(t, tupleType(data("a"), data("b"), data("c"), data("d"), data("e"), data("f")), "( a * b * c * d * e * f )")
	showsType(t, api.Type{Parts: []api.Type{}}, "int")
}

// P6.1
func TestPatternsByHand(t *testing.T) {
	showsPat(t, anyPat(), "_")
	showsPat(t, varPat("é"), "é")
	showsPat(t, varPat("int"), "int")
	showsPat(t, numPat(0), "0")
	showsPat(t, numPat(7), "7")
	showsPat(t, numPat(-7), "~ 7")
	showsPat(t, numPat(most), "4611686018427387903")
	showsPat(t, numPat(-most), "~ 4611686018427387903")
	showsPat(t, conPat("Nil"), "Nil")
	showsPat(t, conPat("A", conPat("B")), "A ( B )")
	showsPat(t, conPat("Cons", varPat("x"), conPat("Cons", numPat(-1), anyPat())), "Cons ( x , Cons ( ~ 1 , _ ) )")
	showsPat(t, tuplePat(anyPat(), tuplePat(numPat(-2), numPat(3))), "( _ , ( ~ 2 , 3 ) )")
	showsPat(t, conPat("A", tuplePat(varPat("a"), conPat("B"), anyPat())), "A ( ( a , B , _ ) )")
	showsPat(t, conPat("A", times(6, numPat(-1))...), "A ( ~ 1 , ~ 1 , ~ 1 , ~ 1 , ~ 1 , ~ 1 )")
}

// times is a list of parts that are alike.
func times[T any](count int, one T) []T { return some(count, func() T { return one }) }

// P6.1: each kind of expression but the operators
func TestExpressionsByHand(t *testing.T) {
	x, y := variable("x"), variable("y")
	shows(t, num(0), "0")
	shows(t, num(-1), "~ 1")
	shows(t, num(most), "4611686018427387903")
	shows(t, num(-most), "~ 4611686018427387903")
	shows(t, text(""), `""`)
	shows(t, variable("state"), "state")
	shows(t, variable("len"), "len")
	shows(t, variable(strings.Repeat("é", 24)), strings.Repeat("é", 24))
	shows(t, con("Nil"), "Nil")
	shows(t, con("Cons", num(-1), con("Nil")), "Cons ( ~ 1 , Nil )")
	shows(t, con("A", tuple(x, y)), "A ( ( x , y ) )")
	shows(t, tuple(x, tuple(y, num(1)), text("a")), `( x , ( y , 1 ) , "a" )`)
	shows(t, tuple(times(6, x)...), "( x , x , x , x , x , x )")
	shows(t, call("f", x), "f ( x )")
	shows(t, call("f", tuple(x, y)), "f ( ( x , y ) )")
	shows(t, call("f", x, call("g", y), con("B")), "f ( x , g ( y ) , B )")
	shows(t, let("x", y, x), "let x = y in x")
	shows(t, let("x", let("y", num(1), y), let("z", x, y)), "let x = let y = 1 in y in let z = x in y")
	shows(t, cond(x, num(1), num(-2)), "if x then 1 else ~ 2")
	shows(t, cond(cond(x, y, x), cond(y, x, y), cond(x, x, x)), "if if x then y else x then if y then x else y else if x then x else x")
	shows(t, match(x, arm(anyPat(), y)), "match x with _ -> y end")
	shows(t, match(x, arm(numPat(-1), y), arm(conPat("A", varPat("z")), variable("z")), arm(anyPat(), num(1))), "match x with ~ 1 -> y | A ( z ) -> z | _ -> 1 end")
	shows(t, match(match(x, arm(anyPat(), x)), arm(anyPat(), match(y, arm(anyPat(), y))), arm(anyPat(), x)),
		"match match x with _ -> x end with _ -> match y with _ -> y end | _ -> x end")
	shows(t, loop(0, "x", y, x), "for 0 with x = y do x")
	shows(t, loop(1000, "é", loop(1, "i", x, y), loop(2, "j", y, x)), "for 1000 with é = for 1 with i = x do y do for 2 with j = y do x")
}

// P6.1: each operator, and no parentheses round what stands in its own ones
func TestOperatorsByHand(t *testing.T) {
	x, y := variable("x"), num(-2)
	for n, sign := range []string{"+", "-", "*", "/", "%", "<", "<=", "=="} {
		shows(t, op(int64(n), x, y), "x "+sign+" ~ 2")
		shows(t, op(int64(n), y, x), "~ 2 "+sign+" x")
	}
	shows(t, op(api.OpLen, x), "len ( x )")
	shows(t, op(api.OpAt, x, y), "at ( x , ~ 2 )")
	shows(t, op(api.OpCat, text("a"), x), `cat ( "a" , x )`)
	shows(t, op(api.OpCut, x, num(1), y), "cut ( x , 1 , ~ 2 )")
	sum, less, l := op(api.OpAdd, x, num(1)), op(api.OpLt, x, num(1)), let("y", x, x)
	shows(t, op(api.OpLen, sum), "len ( x + 1 )")
	shows(t, op(api.OpCut, less, l, sum), "cut ( x < 1 , let y = x in x , x + 1 )")
	shows(t, op(api.OpAt, op(api.OpLen, x), op(api.OpCat, x, x)), "at ( len ( x ) , cat ( x , x ) )")
	for _, e := range []api.Expr{sum, less, l, cond(x, x, x), match(x, arm(anyPat(), x)), loop(1, "y", x, x)} {
		s := show.Expr(e)
		shows(t, tuple(e, e), "( "+s+" , "+s+" )")
		shows(t, con("A", e), "A ( "+s+" )")
		shows(t, call("f", e), "f ( "+s+" )")
		shows(t, op(api.OpLen, e), "len ( "+s+" )")
		shows(t, let("z", e, e), "let z = "+s+" in "+s)
		shows(t, cond(e, e, e), "if "+s+" then "+s+" else "+s)
		shows(t, match(e, arm(anyPat(), e)), "match "+s+" with _ -> "+s+" end")
		shows(t, loop(3, "z", e, e), "for 3 with z = "+s+" do "+s)
	}
}

// P6.1: what a word begins stands in parentheses on either side of each sign; what does not, never does
func TestPartsOfSigns(t *testing.T) {
	x := variable("x")
	for n, sign := range []string{"+", "-", "*", "/", "%", "<", "<=", "=="} {
		for _, e := range []api.Expr{let("y", x, x), cond(x, x, x), match(x, arm(anyPat(), x)), loop(1, "y", x, x)} {
			s := show.Expr(e)
			shows(t, op(int64(n), e, x), "( "+s+" ) "+sign+" x")
			shows(t, op(int64(n), x, e), "x "+sign+" ( "+s+" )")
			shows(t, op(int64(n), e, e), "( "+s+" ) "+sign+" ( "+s+" )")
		}
		for _, e := range []api.Expr{
			num(-1), text("a"), x, variable("state"), con("A"), con("A", x), tuple(x, x), call("f", x),
			op(api.OpLen, x), op(api.OpAt, x, x), op(api.OpCat, x, x), op(api.OpCut, x, x, x),
		} {
			s := show.Expr(e)
			shows(t, op(int64(n), e, e), s+" "+sign+" "+s)
		}
	}
}

// P6.1: a sign within a sign, for each pair of them, on either side
func TestSignsInSigns(t *testing.T) {
	signs := []string{"+", "-", "*", "/", "%", "<", "<=", "=="}
	// whether one in a row stands in parentheses as the left part of one in a column, and as its right part; each for comparisons, sums, products
	left := [3][3]bool{{true, true, true}, {false, false, true}, {false, false, false}}
	right := [3][3]bool{{true, true, true}, {false, true, true}, {false, false, true}}
	class := []int{1, 1, 2, 2, 2, 0, 0, 0}
	a, b, c := variable("a"), variable("b"), variable("c")
	round := func(s string, isRound bool) string {
		if isRound {
			return "( " + s + " )"
		}
		return s
	}
	for in, inner := range signs {
		for out, outer := range signs {
			kid := op(int64(in), a, b)
			s := "a " + inner + " b"
			onLeft, onRight := round(s, left[class[in]][class[out]]), round(s, right[class[in]][class[out]])
			shows(t, op(int64(out), kid, c), onLeft+" "+outer+" c")
			shows(t, op(int64(out), c, kid), "c "+outer+" "+onRight)
			shows(t, op(int64(out), kid, kid), onLeft+" "+outer+" "+onRight)
		}
	}
	shows(t, op(api.OpSub, op(api.OpSub, op(api.OpSub, a, b), c), a), "a - b - c - a")
	shows(t, op(api.OpSub, a, op(api.OpSub, b, op(api.OpSub, c, a))), "a - ( b - ( c - a ) )")
	shows(t, op(api.OpLt, op(api.OpAdd, a, op(api.OpMul, b, c)), op(api.OpMod, op(api.OpDiv, a, b), op(api.OpEq, a, b))), "a + b * c < a / b % ( a == b )")
}

// P6.1: names, numbers and texts are shown as their tokens are
func TestTokensAsLexShowsThem(t *testing.T) {
	for b := range 256 {
		l := []byte{byte(b), 'x', byte(b)}
		shows(t, api.Expr{Kind: api.ExBytes, Bytes: l}, lex.Show(api.Token{Kind: api.TkText, Bytes: l}))
	}
	shows(t, text("\n\t\"\\\x00\x7f\xffé ~"), `"\x0a\x09\"\\\x00\x7f\xff\xc3\xa9 ~"`)
	shows(t, text(strings.Repeat("\xff", 64)), `"`+strings.Repeat(`\xff`, 64)+`"`)
	shows(t, text(strings.Repeat(`"`, 64)), `"`+strings.Repeat(`\"`, 64)+`"`)
	shows(t, text("# | ( ~ in"), `"# | ( ~ in"`)
	for _, n := range []int64{0, 1, 9, 10, 1 << 31, 1 << 53, most} {
		shows(t, num(n), lex.Show(api.Token{Kind: api.TkNum, Num: n}))
	}
	for _, n := range []int64{1, 9, 10, 1 << 31, 1 << 53, most} {
		shows(t, num(-n), "~ "+lex.Show(api.Token{Kind: api.TkNum, Num: n}))
		showsPat(t, conPat("A", numPat(-n)), "A ( ~ "+strconv.FormatInt(n, 10)+" )")
	}
}

// P6.2
func TestProgramsByHand(t *testing.T) {
	showsProg(t, sample(), `type list = Nil | Cons of int * list
type bool = False
fun one ( x : ( int * list ) ) : list = Nil
fun two ( x : int , y : bytes ) : int = x + ~ 1
queue 2
timers 3
state bytes cap 4 = "a\x0a"
on add ( n : int cap 5 ) = ( state , Done )
on sub ( l : list cap 64 ) = ( "" , Say ( 1 , Done ) )
`)
	showsProg(t, api.Prog{Queue: 1}, "queue 1\ntimers 0\nstate int cap 0 = 0\n")
	showsProg(t, api.Prog{Queue: 1, State: data("e")}, "queue 1\ntimers 0\nstate e cap 0 = 0\n")
	p := sample()
	p.Timers = 0
	showsProg(t, p, strings.Replace(wantProg(sample()), "timers 3\n", "timers 0\n", 1))
	p.Timers, p.Queue, p.Cap = 32, 32, 256
	showsProg(t, p, strings.NewReplacer("timers 3", "timers 32", "queue 2", "queue 32", "bytes cap 4", "bytes cap 256").Replace(wantProg(sample())))
	p = api.Prog{Queue: 3, Timers: 1, State: tupleType(bytesType(), data("t")), Init: let("x", num(1), op(api.OpAdd, num(1), num(2)))}
	showsProg(t, p, "queue 3\ntimers 1\nstate ( bytes * t ) cap 0 = let x = 1 in 1 + 2\n")
	p.Datas = []api.Data{{Name: "t", Cons: []api.Con{
		{Name: "A", Fields: []api.Type{tupleType(api.Type{}, api.Type{})}}, {Name: "B"},
		{Name: "C", Fields: []api.Type{tupleType(data("t"), api.Type{}), bytesType(), tupleType(data("t"), data("t"))}}}}}
	showsProg(t, p, "type t = A of ( int * int ) | B | C of ( t * int ) * bytes * ( t * t )\nqueue 3\ntimers 1\nstate ( bytes * t ) cap 0 = let x = 1 in 1 + 2\n")
}

// P6.2: as many parts of each sort as may be
func TestTheMostParts(t *testing.T) {
	named := func(i int) string { return "n" + strconv.Itoa(i) }
	p, want := api.Prog{Queue: 32, Timers: 32, Cap: 256}, ""
	ty := tupleType(times(6, bytesType())...)
	six := "( bytes * bytes * bytes * bytes * bytes * bytes )"
	for i := range api.MaxDatas {
		p.Datas = append(p.Datas, api.Data{Name: named(i), Cons: times(16, api.Con{Name: "A", Fields: times(6, ty)})})
		con := "A of " + strings.TrimSuffix(strings.Repeat(six+" * ", 6), " * ")
		want += "type " + named(i) + " = " + strings.TrimSuffix(strings.Repeat(con+" | ", 16), " | ") + "\n"
	}
	for i := range api.MaxFuns {
		p.Funs = append(p.Funs, api.Fun{Name: named(i), Params: times(6, api.Param{Name: "x", Type: ty}), Result: ty, Body: match(num(1), times(32, arm(anyPat(), num(2)))...)})
		params := strings.TrimSuffix(strings.Repeat("x : "+six+" , ", 6), " , ")
		want += "fun " + named(i) + " ( " + params + " ) : " + six + " = match 1 with " + strings.TrimSuffix(strings.Repeat("_ -> 2 | ", 32), " | ") + " end\n"
	}
	want += "queue 32\ntimers 32\nstate int cap 256 = 0\n"
	for i := range api.MaxHands {
		p.Hands = append(p.Hands, api.Hand{Name: named(i), Param: api.Param{Name: "y", Type: ty}, Cap: 64, Body: call("f", times(6, num(-3))...)})
		want += "on " + named(i) + " ( y : " + six + " cap 64 ) = f ( " + strings.TrimSuffix(strings.Repeat("~ 3 , ", 6), " , ") + " )\n"
	}
	showsProg(t, p, want)
}
