package bound_test

import (
	"strings"
	"testing"

	"handloom/api"
	"handloom/bound"
)

// found is a program's bounds, which it has.
func found(t *testing.T, src string) api.Bounds {
	t.Helper()
	p := prog(t, src)
	got, fault := bound.Of(p)
	if fault != (api.Fault{}) {
		t.Fatalf("Of(%q): %v", src, fault)
	}
	holds(t, p)
	return got
}

// first wants a first state of a type to have a bound.
func first(t *testing.T, of, src, size, words, steps, peak string) {
	t.Helper()
	wants(t, src, found(t, house+"queue 1 state "+of+" cap 0 = "+src).Init, bounds(size, words, steps, peak))
}

// last wants the last function of a text to have a bound.
func last(t *testing.T, src, size, words, steps, peak string) {
	t.Helper()
	l := found(t, house+src+start).Funs
	wants(t, src, l[len(l)-1], bounds(size, words, steps, peak))
}

// P14.2: what has no Kids
func TestBoundOfPlain(t *testing.T) {
	first(t, "int", "0", "", "", "4", "1")
	first(t, "int", "~7", "", "", "4", "1")
	first(t, "list", "Nil", "", "", "4", "1")
	first(t, "color", "Blue", "", "", "4", "1")
	first(t, "act", "Done", "", "", "4", "1")
	for n, words := range map[int]string{0: "2", 1: "3", 7: "3", 8: "3", 9: "4", 16: "4", 17: "5", 63: "10", 64: "10"} {
		first(t, "bytes", `"`+strings.Repeat("a", n)+`"`, words, words, "4", "1")
	}
}

// P14.2: parameters have the unknowns of their places, if they are not flat
func TestBoundOfNames(t *testing.T) {
	last(t, "fun f (l : list) : list = l", "a", "", "4", "1")
	last(t, "fun f (n : int) : int = n", "", "", "4", "1")
	last(t, "fun f (c : color) : color = c", "", "", "4", "1")
	last(t, "fun f (b : bool) : bool = b", "", "", "4", "1")
	last(t, "fun f (b : bytes) : bytes = b", "a", "", "4", "1")
	last(t, "fun f (p : (int * int)) : (int * int) = p", "a", "", "4", "1")
	last(t, "fun f (a : act) : act = a", "a", "", "4", "1")
	for at, name := range []string{"u", "v", "w", "x", "y", "z"} {
		last(t, "fun f (u : list, v : list, w : list, x : list, y : list, z : list) : list = "+name, string(rune('a'+at)), "", "4", "1")
	}
	last(t, "fun f (n : int, c : color, l : list, b : bool, t : tree) : (list * int * tree * color * bool) = (l, n, t, c, b)", "7 + e + c", "7", "34", "11")
	last(t, "fun f (n : int, l : list) : int = n", "", "", "4", "1")
}

// P14.2: ExCon with Kids, and without; ExTuple
func TestBoundOfRecords(t *testing.T) {
	first(t, "list", "Cons(1, Nil)", "4", "4", "16", "5")
	first(t, "list", "Cons(1, Cons(2, Nil))", "8", "8", "28", "6")
	first(t, "wrap", "Wrap((1, End))", "7", "7", "22", "5")
	first(t, "(int * int)", "(1, 2)", "4", "4", "16", "5")
	first(t, "(int * int * int * int * int * int)", "(1, 2, 3, 4, 5, 6)", "8", "8", "40", "13")
	first(t, "(int * (int * int))", "(1, (2, 3))", "8", "8", "28", "6")
	first(t, "((int * int) * int)", "((1, 2), 3)", "8", "8", "28", "5")
	first(t, "note", `Note("12345678", Note("123456789", Blank))`, "15", "15", "28", "6")
	last(t, "fun push (l : list, x : int) : list = Cons(x, l)", "4 + a", "4", "16", "5") // the chapter's example
	last(t, "fun f (t : tree, n : int) : tree = Node(t, n, t)", "5 + 2 a", "5", "22", "7")
	last(t, "fun f (l : list, t : tree) : both = Both(l, t)", "4 + b + a", "4", "16", "5")
	last(t, "fun f (l : list) : (list * list) = (l, Cons(1, l))", "8 + 2 a", "8", "28", "6")
}

// P14.2: ExOp: OpCat and OpCut, and others; each Kid at its place
func TestBoundOfOperators(t *testing.T) {
	for _, sign := range []string{"+", "-", "*", "/", "%"} {
		first(t, "int", "1 "+sign+" 2", "", "", "16", "5")
	}
	for _, sign := range []string{"<", "<=", "=="} {
		first(t, "bool", "1 "+sign+" 2", "", "", "16", "5")
	}
	first(t, "int", `len("abc")`, "", "3", "10", "3")
	first(t, "int", `at("abc", 1)`, "", "3", "16", "5")
	first(t, "bytes", `cat("a", "b")`, "10", "16", "16", "5")
	first(t, "bytes", `cut("a", 1, 1)`, "10", "13", "22", "7")
	first(t, "bytes", `cat(cat("a", "b"), cut("c", 1, 1))`, "10", "39", "46", "8")
	last(t, "fun f (b : bytes, c : bytes) : bytes = cat(b, c)", "10", "10", "16", "5")
	last(t, "fun f (b : bytes) : bytes = cut(b, 0, 1)", "10", "10", "22", "7")
	last(t, "fun f (b : bytes) : int = len(b) + at(b, 3)", "", "", "34", "6")
	first(t, "int", "1 + (2 + (3 + 4))", "", "", "40", "7")
	first(t, "int", "1 + 2 + 3 + 4", "", "", "40", "5")
	first(t, "bytes", `cut("a", 0, 1 + 1)`, "10", "13", "34", "7")
	first(t, "bytes", `cut("a", 0, 1 + (1 + 1))`, "10", "13", "46", "8")
	// flat Kids of what is great
	last(t, "fun f (l : list) : (int * bool) = (len(\"\"), 1 < 2)", "4", "6", "8+6+4+16", "6")
}

// P14.2: ExLet: the name has the first Kid's Size; the second Kid stands one slot further
func TestBoundOfLet(t *testing.T) {
	first(t, "int", "let x = 1 in x", "", "", "16", "5")
	first(t, "(int * int)", "let x = (1, 2) in x", "4", "4", "28", "5")
	first(t, "(int * int)", "let x = 1 in (x, x)", "4", "4", "28", "6")
	first(t, "int", "let x = (let y = 1 in (y, y)) in 3", "", "4", "40", "6")
	last(t, "fun f (l : list) : tree = let t = Leaf in let u = Node(t, 1, t) in Node(u, 2, u)", "15", "10", "64", "9")
	last(t, "fun f (l : list) : (list * list) = let x = Cons(1, l) in (x, l)", "8 + 2 a", "8", "40", "6")
	last(t, "fun f (l : list) : list = let l = Cons(1, l) in let l = Cons(2, l) in l", "8 + a", "8", "52", "6")
	last(t, "fun f (l : list) : list = let m = (let l = Cons(1, l) in l) in l", "a", "4", "40", "5")
}

// P14.2: ExIf: Max of the second and the third, term by term
func TestBoundOfIf(t *testing.T) {
	first(t, "int", "if True then 1 else 2", "", "", "18", "7")
	first(t, "int", "if 1 < 2 then 3 else 4", "", "", "30", "7")
	first(t, "int", "if True then (1 + 2) + 3 else 4", "", "", "42", "7")
	first(t, "list", "if True then Nil else Cons(1, Nil)", "4", "4", "30", "7")
	first(t, "list", "if True then Cons(1, Nil) else Nil", "4", "4", "30", "7")
	first(t, "bytes", `if len("12345678") < 1 then "a" else cat("1", "2")`, "10", "19", "10+22+16", "7")
	last(t, "fun f (l : list, m : list) : list = if True then l else m", "b + a", "", "18", "7")
	last(t, "fun f (l : list, m : list) : list = if True then Cons(1, l) else Cons(2, Cons(3, m))", "8 + b + a", "8", "42", "7")
	last(t, "fun f (l : list, m : list, t : tree) : both = if True then Both(l, t) else Both(m, Node(t, 1, t))", "9 + 2 c + b + a", "9", "10+4+12+22", "8")
	last(t, "fun f (b : bool) : (int * int * int * int) = if b then (1, 2, 3, 4) else (4, 3, 2, 1)", "6", "6", "42", "9")
}

// P14.2: ExMatch of several patterns and arms: all of them count, Max of the Bodies
func TestBoundOfMatch(t *testing.T) {
	first(t, "int", "match 1 with x -> x end", "", "", "30", "5")
	first(t, "int", "match 1 with _ -> 2 end", "", "", "30", "5")
	first(t, "int", "match 5 with 3 -> 1 | ~5 -> 2 | 5 -> 3 | x -> x end", "", "", "6+64+8", "11")
	first(t, "list", "match Cons(1, Nil) with Cons(x, r) -> r | Nil -> Nil end", "4", "4", "74", "11")
	first(t, "int", "match Nil with Nil -> 0 | Cons(_, Nil) -> 1 | Cons(_, Cons(_, _)) -> 2 end", "", "", "6+24+72+8", "21")
	first(t, "int", "match (1, (2, 3)) with (1, (x, _)) -> x | (_, (_, y)) -> y end", "", "8", "134", "23")
	first(t, "(int * int * int * int * int * int)", "match 1 with x -> (x, x, x, x, x, x) end", "8", "8", "66", "15")
	first(t, "int", "match 1 with x -> match 2 with y -> x + y end end", "", "", "68", "9")
	first(t, "int", "match match 1 with x -> x end with y -> y end", "", "", "56", "5")
	last(t, "fun f (l : list) : (int * list) = match l with Nil -> (0, l) | Cons(x, r) -> (x, r) end", "4 + a", "4", "74", "11")
	last(t, "fun f (l : list, m : list, t : tree) : both = match l with Nil -> Both(m, t) | Cons(x, r) -> Both(r, Node(t, x, t)) end", "9 + 2 c + b + a", "9", "54+4+12+22", "5+1+7")
	last(t, `fun f (b : bytes, n : int) : bytes = match n with 0 -> b | 1 -> "" | 2 -> cat(b, "123456789") | _ -> "1234567" end`, "10 + a", "14", "6+64+4+16", "11")
	// what stands further in costs more slots than the patterns
	last(t, "fun f (l : list) : int = match l with _ -> (1 + (2 + (3 + (4 + 5)))) end", "", "", "6+16+4+52", "10")
}

// P14.2: names in an arm have the Kid's Size, if they are not flat, and their types
func TestBoundOfNamesInArms(t *testing.T) {
	last(t, "fun f (l : list) : tree = match l with Nil -> Leaf | Cons(x, r) -> Node(Leaf, x, Leaf) end", "5", "5", "6+48+4+22", "12")
	last(t, "fun f (l : list) : wrap = match l with Nil -> End | Cons(x, r) -> match (x, r) with (y, s) -> Wrap((y, End)) end end", "7", "11", "6+48+4+6+32+16+22", "5+9")
	last(t, "fun f (l : list, m : list) : (list * list) = match (l, m) with (x, y) -> (x, y) end", "12 + 2 b + 2 a", "8", "6+32+16+16", "9")
	last(t, "fun f (l : list) : list = match Cons(1, Cons(2, l)) with x -> x end", "8 + a", "8", "6+16+28+4", "6")
	last(t, "fun f (l : list) : list = match Cons(1, Cons(2, l)) with Cons(_, Cons(_, x)) -> x | _ -> Nil end", "8 + a", "8", "6+64+28+4", "15")
	last(t, "fun f (r : rose) : roses = match r with Rose(n, s) -> match s with Bare -> s | More(x, y) -> More(x, More(r, y)) end end", "8 + 3 a", "8", "6+32+4+6+48+4+28", "4+5+6")
	last(t, "fun f (n : note) : bytes = match n with Blank -> \"12345678\" | Note(b, r) -> b end", "3 + a", "3", "62", "11")
	last(t, "fun f (n : int) : int = match n with 0 -> 0 | x -> x end", "", "", "6+32+4+4", "7")
	last(t, "fun f (c : color) : (color * int) = match c with Red -> (c, 0) | x -> (x, 1) end", "4", "4", "6+32+4+16", "8")
	last(t, "fun f (p : (list * int)) : (int * list) = match p with (l, n) -> (n, l) end", "4 + a", "4", "6+32+4+16", "9")
	last(t, "fun f (l : list) : list = match Cons(1, l) with l -> match Cons(2, l) with l -> l end end", "8 + a", "8", "22+16+22+16+4", "7")
}

// P14.2: calls of other functions, whose sizes are the Kids'
func TestBoundOfCalls(t *testing.T) {
	const g = "fun g (l : list, m : list) : list = match l with Nil -> Cons(1, m) | Cons(_, _) -> l end "
	last(t, g, "4 + b + a", "4", "74", "11")
	last(t, g+"fun f (l : list) : list = g(l, Nil)", "4 + a", "4", "8+8+74", "15")
	last(t, g+"fun f (l : list) : list = g(Nil, l)", "4 + a", "4", "8+8+74", "15")
	last(t, g+"fun f (l : list) : list = g(l, l)", "4 + 2 a", "4", "8+8+74", "15")
	last(t, g+"fun f (m : list, l : list) : list = g(Cons(1, l), g(m, l))", "12 + 2 b + a", "12", "8+16+90+74", "16")
	last(t, g+"fun f (n : int, l : list) : int = match g(l, l) with Nil -> 0 | _ -> n end", "", "4", "6+32+90+4", "15")
	last(t, "fun g (n : int, l : list) : list = Cons(n, l) fun f (l : list) : list = g(7, g(8, l))", "8 + a", "8", "8+4+8+8+16+16", "10")
	last(t, "fun g (l : list) : list = Cons(1, l) fun f (a : list, b : list) : list = g(g(b))", "8 + b", "8", "48", "7")
	last(t, "fun g (n : int) : int = n + 1 fun f (n : int) : int = g(n) + g(g(n))", "", "", "8+26+48", "8")
	// its own unknowns do not stand for those around it
	last(t, "fun g (x : list, y : tree, z : note) : both = Both(x, y) fun f (a : note, b : list, c : tree) : both = g(b, c, a)", "4 + c + b", "4", "10+12+16", "11")
	last(t, "fun g (x : list) : int = 3 fun f (a : list) : (int * int) = (g(a), g(Cons(g(a), a)))", "4", "8", "8+14+6+8+14+4+4", "6")
}

// P14.2: functions of a flat result, whatever they are made of
func TestBoundOfFlat(t *testing.T) {
	last(t, "fun f (l : list, c : color) : color = match (l, c) with (Nil, d) -> d | (Cons(n, r), d) -> if n < 1 then d else Red end", "", "4", "6+16+64+16+10+16+4", "19")
	last(t, "fun g (l : list) : bool = True fun f (l : list) : bool = g(Cons(1, l))", "", "4", "6+16+4", "5")
	last(t, "fun f (l : list) : int = let x = (l, l) in let y = 3 in y", "", "4", "8+16+8+4+4", "6")
	last(t, "fun f (l : list) : int = for 3 with n = 0 do (let m = Cons(n, l) in n)", "", "12", "8+4+3*34", "7")
}

// P14.2: a handler's state has the unknown 0, its Param the unknown 1, if they are not flat
func TestBoundOfHands(t *testing.T) {
	b := found(t, house+`queue 2 timers 1 state list cap 9 = Cons(1, Nil)
		on add (l : list cap 5) = (state, Done)
		on put (l : list cap 5) = (l, Done)
		on push (n : int cap 0) = (Cons(n, state), Say(n, Done))
		on both (x : (list * note) cap 30) = match x with (Nil, _) -> (state, Done) | (y, Note(b, _)) -> (y, Tell(b, Done)) | (y, Blank) -> (y, Tell("abc", Done)) end
		on alarm (k : int cap 0) = (state, Stop(k, Done))`)
	want := []api.Bound{
		bounds("4 + a", "4", "16", "5"), bounds("4 + b", "4", "16", "5"), bounds("12 + a", "12", "40", "6"),
		bounds("11 + 2 b + a", "11", "6+8*3+8*11+4+28", "25"), bounds("8 + a", "8", "28", "6"),
	}
	for at, h := range b.Hands {
		wants(t, "a handler", h, want[at])
	}
	wants(t, "a list", b.Init, bounds("4", "4", "16", "5"))
	if len(b.Hands) != len(want) || b.Funs != nil {
		t.Errorf("%d handlers, %d functions were told", len(b.Hands), len(b.Funs))
	}
	b = found(t, house+"fun f (a : int, l : list) : list = Cons(a, l) queue 1 state color cap 0 = Red on h (t : tree cap 5) = (state, match t with Node(_, n, _) -> Say(n, Done) | _ -> Done end) on i (n : int cap 0) = (match f(n, f(n, Nil)) with Nil -> state | _ -> Blue end, Done)")
	wants(t, "a handler of a flat state", b.Hands[0], bounds("8", "8", "8+4+6+16+40+4+16", "14"))
	wants(t, "a handler of a flat value", b.Hands[1], bounds("4", "12", "8+6+32+8+4+8+4+4+16+16+4+4", "10"))
	wants(t, "a function", b.Funs[0], bounds("4 + b", "4", "16", "5"))
}

// P14.2: all bounds are told in order, of functions as of handlers
func TestBoundsInOrder(t *testing.T) {
	b := found(t, "fun f (n : int) : int = n fun g (n : int) : int = n + n fun h (n : int) : int = n + n + n queue 1 state int cap 0 = 1 + 2 + 3 + 4 on z (n : int cap 0) = (n, Done) on a (n : int cap 0) = (n + n, Done)")
	for at, steps := range []string{"4", "16", "28"} {
		if got := written(b.Funs[at].Steps); got != steps {
			t.Errorf("the function %d: %s steps, want %s", at, got, steps)
		}
	}
	if got := written(b.Init.Steps) + " " + written(b.Hands[0].Steps) + " " + written(b.Hands[1].Steps); got != "40 16 28" || len(b.Funs) != 3 || len(b.Hands) != 2 {
		t.Errorf("%s steps were told", got)
	}
}
