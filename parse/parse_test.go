package parse_test

import (
	"fmt"
	"reflect"
	"strings"
	"testing"

	"handloom/api"
	"handloom/ast"
	"handloom/parse"
)

// short is what a tree looks like, cut off.
func short(tree any) string {
	s := fmt.Sprintf("%+v", tree)
	return s[:min(len(s), 400)]
}

func clip(src string) string { return fmt.Sprintf("%.300q", src) }

func at(col int) api.Pos { return api.Pos{Line: 1, Col: col} }

func num(col int, n int64) api.Expr { return api.Expr{At: at(col), Num: n} }

func text(col int, s string) api.Expr {
	return api.Expr{Kind: api.ExBytes, At: at(col), Bytes: []byte(s)}
}

func variable(col int, name string) api.Expr {
	return api.Expr{Kind: api.ExVar, At: at(col), Name: name}
}

func con(col int, name string, kids ...api.Expr) api.Expr {
	return api.Expr{Kind: api.ExCon, At: at(col), Name: name, Kids: kids}
}

func tuple(col int, kids ...api.Expr) api.Expr {
	return api.Expr{Kind: api.ExTuple, At: at(col), Kids: kids}
}

func call(col int, name string, kids ...api.Expr) api.Expr {
	return api.Expr{Kind: api.ExCall, At: at(col), Name: name, Kids: kids}
}

func let(col int, name string, kids ...api.Expr) api.Expr {
	return api.Expr{Kind: api.ExLet, At: at(col), Name: name, Kids: kids}
}

func cond(col int, kids ...api.Expr) api.Expr {
	return api.Expr{Kind: api.ExIf, At: at(col), Kids: kids}
}

func match(col int, of api.Expr, arms ...api.Arm) api.Expr {
	return api.Expr{Kind: api.ExMatch, At: at(col), Kids: []api.Expr{of}, Arms: arms}
}

func arm(p api.Pat, body api.Expr) api.Arm { return api.Arm{Pat: p, Body: body} }

func op(col int, n int64, kids ...api.Expr) api.Expr {
	return api.Expr{Kind: api.ExOp, At: at(col), Num: n, Kids: kids}
}

func loop(col int, times int64, name string, kids ...api.Expr) api.Expr {
	return api.Expr{Kind: api.ExFor, At: at(col), Num: times, Name: name, Kids: kids}
}

func anyPat(col int) api.Pat { return api.Pat{At: at(col)} }

func varPat(col int, name string) api.Pat {
	return api.Pat{Kind: api.PtVar, At: at(col), Name: name}
}

func numPat(col int, n int64) api.Pat { return api.Pat{Kind: api.PtInt, At: at(col), Num: n} }

func conPat(col int, name string, kids ...api.Pat) api.Pat {
	return api.Pat{Kind: api.PtCon, At: at(col), Name: name, Kids: kids}
}

func tuplePat(col int, kids ...api.Pat) api.Pat {
	return api.Pat{Kind: api.PtTuple, At: at(col), Kids: kids}
}

func number() api.Type { return api.Type{} }

func bytes() api.Type { return api.Type{Kind: api.TyBytes} }

func data(name string) api.Type { return api.Type{Kind: api.TyData, Name: name} }

func tupleType(parts ...api.Type) api.Type { return api.Type{Kind: api.TyTuple, Parts: parts} }

// reads wants an expression, with its places and nothing else.
func reads(t *testing.T, src string, want api.Expr) {
	t.Helper()
	got, fault := parse.Expr(src)
	if fault != (api.Fault{}) || !reflect.DeepEqual(got, want) {
		t.Fatalf("Expr(%s) = %s, %v\nwant %s", clip(src), short(got), fault, short(want))
	}
}

func readsType(t *testing.T, src string, want api.Type) {
	t.Helper()
	got, fault := parse.Type(src)
	if fault != (api.Fault{}) || !reflect.DeepEqual(got, want) {
		t.Fatalf("Type(%s) = %s, %v\nwant %s", clip(src), short(got), fault, short(want))
	}
}

func readsProg(t *testing.T, src string, want api.Prog) {
	t.Helper()
	got, fault := parse.Parse(src)
	if fault != (api.Fault{}) || !reflect.DeepEqual(got, want) {
		t.Fatalf("Parse(%s) = %s, %v\nwant %s", clip(src), short(got), fault, short(want))
	}
}

// P5.2: each line of the form
func TestExprByHand(t *testing.T) {
	reads(t, "0", num(1, 0))
	reads(t, " 12", num(2, 12))
	reads(t, "4611686018427387903", num(1, most))
	reads(t, "~4611686018427387903", num(1, -most))
	reads(t, " ~  7", num(2, -7))
	reads(t, "~0", num(1, 0))
	reads(t, `"ab"`, text(1, "ab"))
	reads(t, `""`, api.Expr{Kind: api.ExBytes, At: at(1)})
	reads(t, "state", variable(1, "state"))
	reads(t, "x", variable(1, "x"))
	for _, name := range []string{"int", "bytes", "len", "at", "cat", "cut"} {
		reads(t, name, variable(1, name))
		reads(t, name+" + 1", op(len(name)+2, api.OpAdd, variable(1, name), num(len(name)+4, 1)))
		reads(t, "let "+name+" = 1 in 2", let(1, name, num(len(name)+8, 1), num(len(name)+13, 2)))
	}
	reads(t, "f(1)", call(1, "f", num(3, 1)))
	reads(t, "f (x, ~2,g(3))", call(1, "f", variable(4, "x"), num(7, -2), call(10, "g", num(12, 3))))
	reads(t, "Nil", con(1, "Nil"))
	reads(t, "Int(int)", con(1, "Int", variable(5, "int")))
	reads(t, "Cons(1, Nil)", con(1, "Cons", num(6, 1), con(9, "Nil")))
	reads(t, "(x)", variable(2, "x"))
	reads(t, "(((x)))", variable(4, "x"))
	reads(t, "(x, 1)", tuple(1, variable(2, "x"), num(5, 1)))
	reads(t, "((x, 1), (2))", tuple(1, tuple(2, variable(3, "x"), num(6, 1)), num(11, 2)))
	reads(t, "len(x)", op(1, api.OpLen, variable(5, "x")))
	reads(t, "at (x, 1)", op(1, api.OpAt, variable(5, "x"), num(8, 1)))
	reads(t, "cat(x, y)", op(1, api.OpCat, variable(5, "x"), variable(8, "y")))
	reads(t, "cut(x, 1, 2)", op(1, api.OpCut, variable(5, "x"), num(8, 1), num(11, 2)))
	reads(t, "let x = 1 in x", let(1, "x", num(9, 1), variable(14, "x")))
	reads(t, "if 1 then 2 else 3", cond(1, num(4, 1), num(11, 2), num(18, 3)))
	reads(t, "for 3 with k = 1 do k", loop(1, 3, "k", num(16, 1), variable(21, "k")))
	reads(t, "for 0 with k = 1 do k", loop(1, 0, "k", num(16, 1), variable(21, "k")))
	reads(t, "match x with y -> 1 end", match(1, variable(7, "x"), arm(varPat(14, "y"), num(19, 1))))
	reads(t, "match x with | y -> 1 end", match(1, variable(7, "x"), arm(varPat(16, "y"), num(21, 1))))
	reads(t, "match x with 1 -> 2 | _ -> 3 end", match(1, variable(7, "x"), arm(numPat(14, 1), num(19, 2)), arm(anyPat(23), num(28, 3))))
}

// P5.2: each kind of pattern
func TestPatternsByHand(t *testing.T) {
	one := func(src string, want api.Pat) {
		t.Helper()
		reads(t, "match 1 with "+src+" -> 2 end", match(1, num(7, 1), arm(want, num(18+len(src), 2))))
	}
	one("_", anyPat(14))
	one("x", varPat(14, "x"))
	one("int", varPat(14, "int"))
	one("len", varPat(14, "len"))
	one("4611686018427387903", numPat(14, most))
	one("~ 4611686018427387903", numPat(14, -most))
	one("~0", numPat(14, 0))
	one("Nil", conPat(14, "Nil"))
	one("Cons(x, Nil)", conPat(14, "Cons", varPat(19, "x"), conPat(22, "Nil")))
	one("(_)", anyPat(15))
	one("((x))", varPat(16, "x"))
	one("(_, x)", tuplePat(14, anyPat(15), varPat(18, "x")))
	one("((1, 2), (A), _)", tuplePat(14, tuplePat(15, numPat(16, 1), numPat(19, 2)), conPat(24, "A"), anyPat(28)))
	one("A((x, y))", conPat(14, "A", tuplePat(16, varPat(17, "x"), varPat(20, "y"))))
}

// P5.2: what goes from the left, and what holds tighter than what
func TestSignsByHand(t *testing.T) {
	a, b, c := variable(1, "a"), variable(5, "b"), variable(9, "c")
	signs := map[string]int64{
		"+": api.OpAdd, "-": api.OpSub, "*": api.OpMul, "/": api.OpDiv, "%": api.OpMod, "<": api.OpLt, "<=": api.OpLe, "==": api.OpEq,
	}
	rank := func(sign string) int { return rankOf(api.Expr{Kind: api.ExOp, Num: signs[sign]}) }
	for x, n := range signs {
		reads(t, "a "+x+" b", op(3, n, a, variable(4+len(x), "b")))
		reads(t, "a"+x+"b", op(2, n, a, variable(2+len(x), "b")))
		for y, m := range signs {
			if len(x)+len(y) > 2 || rank(x) == 1 && rank(y) == 1 {
				continue
			}
			want := op(7, m, op(3, n, a, b), c)
			if rank(x) < rank(y) {
				want = op(3, n, a, op(7, m, b, c))
			}
			reads(t, "a "+x+" b "+y+" c", want)
		}
	}
	reads(t, "1 + 2 * x", op(3, api.OpAdd, num(1, 1), op(7, api.OpMul, num(5, 2), variable(9, "x"))))
	reads(t, "(1 + 2) * x", op(9, api.OpMul, op(4, api.OpAdd, num(2, 1), num(6, 2)), variable(11, "x")))
	reads(t, "a - b - c", op(7, api.OpSub, op(3, api.OpSub, a, b), c))
	reads(t, "a - (b - c)", op(3, api.OpSub, a, op(8, api.OpSub, variable(6, "b"), variable(10, "c"))))
	reads(t, "a / b * c % d", op(11, api.OpMod, op(7, api.OpMul, op(3, api.OpDiv, a, b), c), variable(13, "d")))
	reads(t, "a+b < c*d", op(5, api.OpLt, op(2, api.OpAdd, a, variable(3, "b")), op(8, api.OpMul, variable(7, "c"), variable(9, "d"))))
	reads(t, "(a < b) == (c <= d)", op(9, api.OpEq, op(4, api.OpLt, variable(2, "a"), variable(6, "b")), op(15, api.OpLe, variable(13, "c"), variable(18, "d"))))
	reads(t, "1-~1", op(2, api.OpSub, num(1, 1), num(3, -1)))
	reads(t, "f(1)*len(x)", op(5, api.OpMul, call(1, "f", num(3, 1)), op(6, api.OpLen, variable(10, "x"))))
	reads(t, "if a < b then c else d + 1", cond(1, op(6, api.OpLt, variable(4, "a"), variable(8, "b")), variable(15, "c"), op(24, api.OpAdd, variable(22, "d"), num(26, 1))))
	reads(t, "let x = let y = 1 in y in x + y", let(1, "x", let(9, "y", num(17, 1), variable(22, "y")), op(29, api.OpAdd, variable(27, "x"), variable(31, "y"))))
}

// P5.2
func TestTypeByHand(t *testing.T) {
	readsType(t, "int", number())
	readsType(t, "bytes", bytes())
	readsType(t, "list", data("list"))
	readsType(t, "len", data("len"))
	readsType(t, "(int * bytes)", tupleType(number(), bytes()))
	readsType(t, "( list * int * t * (int*int) * bytes * é )", tupleType(data("list"), number(), data("t"), tupleType(number(), number()), bytes(), data("é")))
}

// P5.1: each kind of declaration, in an order of one's own
func TestParseByHand(t *testing.T) {
	readsProg(t, "queue 1 state int cap 0 = 0", api.Prog{Queue: 1, Init: num(27, 0)})
	readsProg(t, "state (int * list) cap 256 = (0, Nil) timers 32 queue 32",
		api.Prog{Queue: 32, Timers: 32, State: tupleType(number(), data("list")), Cap: 256, Init: tuple(30, num(31, 0), con(34, "Nil"))})
	readsProg(t, "queue 2 on add(n : int cap 0) = (state, Done) state int cap 0 = 0 type t = A", api.Prog{
		Datas: []api.Data{{At: at(67), Name: "t", Cons: []api.Con{{Name: "A"}}}},
		Queue: 2, Init: num(65, 0),
		Hands: []api.Hand{{At: at(9), Name: "add", Param: api.Param{Name: "n"}, Body: tuple(33, variable(34, "state"), con(41, "Done"))}},
	})
	src := "type list = Nil | Cons of int * list\ntype t = T of (int * bytes)\nfun f (x : list, len : int) : bytes = \"a\"\n" +
		"fun f (y : t) : (int * int) = y\ntimers 0 state bytes cap 9 = \"\" queue 3\non len (int : t cap 64) = state\non len (x : int cap 0) = x"
	in := func(line int, e api.Expr) api.Expr { e.At.Line = line; return e }
	place := func(line, col int) api.Pos { return api.Pos{Line: line, Col: col} }
	readsProg(t, src, api.Prog{
		Datas: []api.Data{
			{At: place(1, 1), Name: "list", Cons: []api.Con{{Name: "Nil"}, {Name: "Cons", Fields: []api.Type{number(), data("list")}}}},
			{At: place(2, 1), Name: "t", Cons: []api.Con{{Name: "T", Fields: []api.Type{tupleType(number(), bytes())}}}}},
		Funs: []api.Fun{
			{At: place(3, 1), Name: "f", Params: []api.Param{{Name: "x", Type: data("list")}, {Name: "len"}}, Result: bytes(), Body: in(3, text(39, "a"))},
			{At: place(4, 1), Name: "f", Params: []api.Param{{Name: "y", Type: data("t")}}, Result: tupleType(number(), number()), Body: in(4, variable(31, "y"))}},
		Queue: 3, State: bytes(), Cap: 9, Init: api.Expr{Kind: api.ExBytes, At: place(5, 30)},
		Hands: []api.Hand{
			{At: place(6, 1), Name: "len", Param: api.Param{Name: "int", Type: data("t")}, Cap: 64, Body: in(6, variable(27, "state"))},
			{At: place(7, 1), Name: "len", Param: api.Param{Name: "x"}, Body: in(7, variable(26, "x"))}},
	})
}

// P5.1, P5.2, P5.3: any fit tree, written in any way, is read as it, with the places at which its parts were written
func TestTreesAreReadAsTheyWereWritten(t *testing.T) {
	s := sower(88172645463325252)
	for i := range 3000 {
		w := newWriter(&s)
		w.wide = i%4 == 0
		want := w.expr(s.anExpr(1+i%5), 0)
		w.gap()
		if src := w.out.String(); i%5 < 4 || len(src) < api.MaxSource/2 {
			reads(t, src, want)
		}
	}
	for range 3000 {
		w := newWriter(&s)
		want := w.expr(s.signed(2+s.below(4)), 0)
		reads(t, w.out.String(), want)
	}
	for i := range 1000 {
		w := newWriter(&s)
		w.wide = i%4 == 0
		want := w.typ(s.aType(1 + i%4))
		readsType(t, w.out.String(), want)
	}
	for i := range 2000 {
		w := newWriter(&s)
		w.wide = i%4 == 0
		want := w.prog(s.aProg(1 + i%3))
		w.gap()
		if src := w.out.String(); len(src) < api.MaxSource/2 {
			readsProg(t, src, want)
			if got, _ := parse.Parse(src); !ast.Fit(got) {
				t.Fatalf("what Parse(%s) tells is not fit", clip(src))
			}
		}
	}
}

// P5.3: blanks and remarks more change nothing but places
func TestBlanksChangePlacesAlone(t *testing.T) {
	s := sower(362436069)
	for range 300 {
		p := s.aProg(3)
		seed := s
		narrow := newWriter(&seed)
		narrow.prog(ast.Bare(p))
		a, fault := parse.Parse(narrow.out.String())
		if fault.Err == api.ErrLong || fault.Err == api.ErrMany {
			continue
		}
		for _, between := range []string{"\n", "\t\r ", "# \"if @ ( \n", "\n#\n", strings.Repeat(" ", 3)} {
			tokens := tokensOf(narrow.out.String())
			src := between + strings.Join(tokens, between) + between
			b, fault := parse.Parse(src)
			if len(src) <= api.MaxSource && (fault != (api.Fault{}) || !ast.Same(a, b) || !reflect.DeepEqual(ast.Bare(a), ast.Bare(b))) {
				t.Fatalf("%s is not read as %s", clip(src), clip(narrow.out.String()))
			}
		}
	}
}

// 0.5: a text is no memory that can be changed; trees that were told stay as they were, and none shares with another one
func TestTreesAreNewMemory(t *testing.T) {
	src := `f("abc", "def", "abc")`
	a, _ := parse.Expr(src)
	b, _ := parse.Expr(src)
	for i := range a.Kids {
		a.Kids[i].Bytes = append(a.Kids[i].Bytes[:1], "zzzz"...)
		a.Kids[i].Bytes[0] = 'y'
	}
	a.Kids[2] = num(1, 1)
	_ = append(a.Kids[0].Bytes[:0], "qqqqqqqq"...)
	reads(t, src, b)
	if string(a.Kids[1].Bytes) != "yzzzz" || string(b.Kids[0].Bytes) != "abc" || string(b.Kids[1].Bytes) != "def" || string(b.Kids[2].Bytes) != "abc" {
		t.Error("texts of trees share memory")
	}
}
