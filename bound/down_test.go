package bound_test

import (
	"strconv"
	"strings"
	"testing"

	"handloom/api"
)

// P14.2: functions that go down, whose other parameters stay, or are flat
func TestDownBySteps(t *testing.T) {
	last(t, "fun f (l : list, s : int) : int = match l with Nil -> s | Cons(x, r) -> f(r, s + x) end", "", "", "86 + 86 a", "11 + 11 a")
	last(t, "fun f (l : list) : list = match l with Nil -> l | Cons(x, r) -> f(r) end", "a + a^2", "", "54+4+10 + 68 a", "11 + 11 a")
	last(t, "fun f (l : list) : list = match l with Nil -> Nil | Cons(x, r) -> Cons(x + 1, f(r)) end", "4 + 4 a", "4 + 4 a", "54+4+8+16+10 + 92 a", "11 + 11 a")
	last(t, "fun f (a : list, b : list) : list = match a with Nil -> b | Cons(x, r) -> Cons(x, f(r, b)) end", "4 + b + 4 a + a b", "4 + 4 a", "54+4+8+4+16 + 86 a", "11 + 11 a")
	last(t, "fun f (s : list, n : int, t : tree) : (list * int) = match t with Leaf -> (s, n) | Node(a, m, _) -> f(s, n + m, a) end", "4 + 4 c + a + a c", "4 + 4 c", "6+16+40+4+10+4+16+4 + 100 c", "13 + 13 c")
	last(t, "fun f (c : color, b : bytes, x : int, l : list) : bytes = match l with Nil -> b | Cons(_, r) -> f(c, b, x, r) end", "b + b d", "", "54+4+12+16 + 86 d", "14 + 14 d")
	// by its sixth parameter
	last(t, "fun f (u : int, v : int, w : int, x : int, y : int, z : wrap) : int = match z with End -> u | Wrap(p) -> match p with (n, q) -> f(n, u, v, w, x, q) end end", "", "", "6+16+24+4+6+8+24+4+16+6*4 + 132 f", "4+4+13 + 21 f")
	// several calls, each on a way of its own, and one that is called ahead of what is done with it
	last(t, "fun f (t : tree, x : int) : bool = match t with Leaf -> False | Node(a, y, b) -> if x == y then True else if x < y then f(a, x) else f(b, x) end", "", "", "62+4+10+16+10+16+16 + 134 a", "13 + 13 a")
	last(t, "fun f (l : list) : note = match l with Nil -> Blank | Cons(_, r) -> let n = f(r) in Note(\"12345678\", n) end", "7 + 7 a", "7 + 7 a", "54+4+8+10+16 + 92 a", "11 + 11 a")
	last(t, "fun f (l : list) : int = match l with Nil -> 0 | Cons(_, r) -> for 3 with n = f(r) do n + 1 end", "", "", "54+4+8+10+66 + 142 a", "12 + 12 a")
	last(t, "fun f (l : list) : list = match l with Nil -> Nil | Cons(_, r) -> for 3 with x = f(r) do Cons(1, x) end", "12 + 12 a", "12 + 12 a", "54+4+8+10+66 + 142 a", "12 + 12 a")
}

// P14.2: VarSelf in the Body's Size 1 time: all of them are added up; not at all: the rest
func TestDownBySize(t *testing.T) {
	last(t, "fun f (l : list, m : list) : list = match l with Nil -> m | Cons(_, r) -> let x = f(r, m) in m end", "b", "", "54+4+8+16+4 + 86 a", "11 + 11 a")
	last(t, "fun f (l : list, m : list) : list = match l with Nil -> m | Cons(_, r) -> match f(r, m) with Nil -> Cons(1, m) | Cons(_, _) -> Nil end end", "4 + b", "4 + 4 a", "54+4+54+16+16 + 144 a", "16 + 16 a")
	last(t, "fun f (l : list, m : list) : list = match l with Nil -> m | Cons(_, r) -> if True then f(r, m) else Cons(1, m) end", "4 + b + 4 a + a b", "4 + 4 a", "54+4+10+4+16 + 88 a", "12 + 12 a")
	last(t, "fun f (l : list) : tree = match l with Nil -> Leaf | Cons(x, r) -> match f(r) with Leaf -> Leaf | Node(_, n, s) -> Node(s, n, Leaf) end end", "5 + 5 a", "5 + 5 a", "54+4+62+10+22 + 152 a", "18 + 18 a")
	last(t, "fun f (l : list) : bool = match l with Nil -> True | Cons(x, r) -> f(r) end", "", "", "68 + 68 a", "11 + 11 a")
}

// P14.2: another parameter that grows by a rest from call to call
func TestDownThatHandsOn(t *testing.T) {
	last(t, "fun f (a : list, b : list) : list = match a with Nil -> b | Cons(x, r) -> f(r, Cons(x, b)) end", "4 + b + 8 a + a b + 4 a^2", "4 + 4 a", "86 + 86 a", "11 + 11 a")
	last(t, "fun f (b : list, a : list) : list = match a with Nil -> b | Cons(x, r) -> f(Cons(x, b), r) end", "4 + 8 b + 4 b^2 + a + a b", "4 + 4 b", "86 + 86 b", "11 + 11 b")
	// the greatest of several calls
	last(t, "fun f (a : list, b : list) : list = match a with Nil -> b | Cons(x, r) -> if x < 1 then f(r, Cons(1, b)) else f(r, Cons(1, Cons(2, b))) end", "8 + b + 16 a + a b + 8 a^2", "8 + 8 a", "54+4+26+8+4+28 + 124 a", "12 + 12 a")
	last(t, "fun f (a : list, b : note) : note = match a with Nil -> b | Cons(x, r) -> if x < 1 then f(r, Note(\"1\", b)) else if x < 2 then f(r, Blank) else f(r, b) end", "7 + b + 14 a + a b + 7 a^2", "7 + 7 a", "54+4+26+26+16 + 126 a", "12 + 12 a")
	// by what stays, and by what goes down
	last(t, "fun f (l : list, b : tree, c : tree) : tree = match l with Nil -> b | Cons(_, r) -> f(r, Node(b, 1, c), c) end", "5 + c + b + 10 a + 2 a c + a b + 5 a^2 + a^2 c", "5 + 5 a", "54+4+10+4+22+4 + 98 a", "13 + 13 a")
	last(t, "fun f (t : tree, b : tree) : tree = match t with Leaf -> b | Node(x, n, y) -> f(x, Node(b, n, t)) end", "5 + b + 11 a + a b + 7 a^2 + a^3", "5 + 5 a", "62+4+8+4+22 + 100 a", "14 + 14 a")
	last(t, "fun f (t : tree, b : tree) : int = match t with Leaf -> 0 | Node(x, n, y) -> f(x, Node(b, n, y)) end", "", "5 + 5 a", "100 + 100 a", "14 + 14 a")
	// another's in its place, or nothing of it
	last(t, "fun f (l : list, b : list, c : list) : list = match l with Nil -> b | Cons(_, r) -> f(r, c, c) end", "c + b + 2 a c + a b + a^2 c", "", "54+4+10+12 + 80 a", "12 + 12 a")
	last(t, "fun f (l : list, b : list) : list = match l with Nil -> b | Cons(_, r) -> f(r, Nil) end", "b + a b", "", "54+4+16 + 74 a", "11 + 11 a")
	last(t, "fun f (l : list, b : list) : list = match l with Nil -> b | Cons(_, r) -> f(r, l) end", "b + a + a b + 2 a^2 + a^3", "", "54+4+16 + 74 a", "11 + 11 a")
	// several that grow, each by itself
	last(t, "fun f (l : list, b : list, c : note) : (list * note) = match l with Nil -> (b, c) | Cons(x, r) -> f(r, Cons(x, b), Note(\"\", c)) end", "14 + c + b + 24 a + a c + a b + 10 a^2", "10 + 10 a", "54+4+10+4+16+16 + 104 a", "12 + 12 a")
	// what the Body does with it costs by how great it is at last
	last(t, helpers+"fun f (l : list, b : list) : int = match l with Nil -> size(b) | Cons(x, r) -> f(r, Cons(x, b)) end", "", "4 + 4 a", "54+4+90+320 + 80 b + 468+320 a + 80 a b + 320 a^2", "5+13+44 + 11 b + 62+44 a + 11 a b + 44 a^2")
	// a let, a match, between a parameter and what is handed on for it
	last(t, "fun f (l : list, b : list) : list = match l with Nil -> b | Cons(x, r) -> let c = Cons(x, b) in match c with Nil -> b | Cons(_, d) -> f(r, d) end end", "4 + b + 8 a + a b + 4 a^2", "4 + 4 a", "54+4+8+16+54+4+16 + 156 a", "17 + 17 a")
	last(t, "fun f (l : list, b : list) : list = match l with Nil -> b | Cons(x, r) -> f(r, for 5 with c = b do Cons(x, c)) end", "20 + b + 40 a + a b + 20 a^2", "20 + 20 a", "54+4+8+4+12+5*22 + 192 a", "13 + 13 a")
}

// P14.2: ErrGrow of a parameter that grows otherwise than by a rest, whatever else is in order
func TestDownThatGrows(t *testing.T) {
	const head = "@fun f (l : list, b : tree, c : tree) : tree = match l with Nil -> b | Cons(x, r) -> "
	for _, again := range []string{
		"f(r, Node(b, 1, b), c)", "f(r, c, Node(c, 1, c))", "f(r, Node(b, x, Node(c, x, b)), c)", // several times
		"f(r, c, b)", "f(r, Node(c, 1, Leaf), b)", "f(r, Node(b, 1, c), Node(c, 1, Leaf))", "f(r, Node(Leaf, 1, b), Node(b, 1, c))", "f(r, Node(b, 1, Leaf), b)", // by what grows itself
		"if True then f(r, b, c) else f(r, Node(b, 1, b), c)", "if True then f(r, Node(b, 1, b), c) else f(r, b, c)",
		"if True then f(r, Node(b, 1, c), c) else f(r, b, Node(c, 1, Leaf))",
		"let d = Node(b, 1, b) in f(r, d, c)", "match Node(b, 1, b) with Leaf -> b | Node(d, _, _) -> f(r, d, c) end",
		"f(r, for 2 with d = b do Node(d, 1, b), b)",
	} {
		grows(t, head+again+" end")
	}
	last(t, head[1:]+"f(r, Node(b, 1, Leaf), Node(c, 1, Leaf)) end", "5 + b + 10 a + a b + 5 a^2", "10 + 10 a", "54+4+10+4+22+22 + 116 a", "14 + 14 a")
	last(t, head[1:]+"f(r, for 2 with d = b do Node(d, 1, c), c) end", "10 + 2 c + b + 20 a + 4 a c + a b + 10 a^2 + 2 a^2 c", "10 + 10 a", "54+4+10+4+4+12+2*28 + 144 a", "15 + 15 a")
	const lists = helpers + "@fun f (l : list, b : list, c : list) : int = match l with Nil -> 0 | Cons(x, r) -> "
	for _, again := range []string{"f(r, app(b, c), c)", "f(r, app(c, b), c)", "f(r, app(b, Nil), c)", "f(r, b, app(b, c))", "f(r, app(b, b), c)"} {
		grows(t, lists+again+" end")
	}
	grows(t, helpers+"@fun f (l : list, b : list) : int = match l with Nil -> 0 | Cons(x, r) -> f(r, app(l, b)) end")
}

// P14.2: ErrGrow of what a call of itself tells: in Size several times, or in a product; in Words, Steps or Peak at all
func TestDownOfItsOwn(t *testing.T) {
	const body = "fun f (l : list) : tree = match l with Nil -> Leaf | Cons(x, r) -> "
	const trees = helpers + "@" + body
	grows(t, trees+"let y = f(r) in Node(y, x, y) end")
	grows(t, trees+"let y = f(r) in Node(y, x, Node(Leaf, x, y)) end")
	grows(t, trees+"let y = f(r) in fork(y, y) end")
	grows(t, trees+"for 2 with z = f(r) do Node(z, x, z) end")
	grows(t, trees+"let y = f(r) in for 2 with z = Leaf do Node(z, x, y) end")
	grows(t, trees+"match f(r) with Leaf -> Leaf | Node(y, n, z) -> Node(z, n, y) end end")
	last(t, body+"let y = f(r) in for 1 with z = Leaf do Node(z, x, y) end", "5 + 5 a", "5 + 5 a", "54+4+8+10+12+28 + 116 a", "15 + 15 a")
	last(t, body+"let y = f(r) in for 7 with z = Leaf do y end", "", "", "54+4+8+10+12+70 + 158 a", "11 + 11 a")
	const lists = helpers + "@fun f (l : list) : list = match l with Nil -> Nil | Cons(x, r) -> "
	grows(t, lists+"app(f(r), Cons(x, Nil)) end")
	grows(t, lists+"app(f(r), Nil) end")
	grows(t, lists+"app(l, f(r)) end")
	grows(t, lists+"let y = f(r) in let n = size(y) in Cons(n, y) end") // Steps and Peak
	grows(t, lists+"let y = f(r) in let n = size(app(y, Nil)) in l end")
	grows(t, helpers+"@fun f (l : list) : list = match l with Nil -> Nil | Cons(x, r) -> let y = f(r) in for 2 with z = y do let n = size(z) in z end")
	grows(t, "fun g (t : tree) : int = let x = Node(t, 1, t) in 3 fun f (l : list) : tree = match l with Nil -> Leaf | Cons(x, r) -> let n = g(f(r)) in Leaf end @fun h (l : list) : tree = match l with Nil -> Leaf | Cons(x, r) -> let y = h(r) in Node(y, 1, y) end")
	// what it tells may be asked by what costs no more for it
	last(t, "fun g (t : tree) : int = let x = Node(t, 1, t) in 3 fun f (l : list) : tree = match l with Nil -> Leaf | Cons(x, r) -> let n = g(f(r)) in Leaf end", "", "5 + 5 a", "54+4+8+6+10+8+22+4+4 + 120 a", "14 + 14 a")
}

// P14.2: a function is called by its own bound, of itself as of others
func TestDownInDown(t *testing.T) {
	last(t, helpers+"fun f (l : list) : int = match l with Nil -> 0 | Cons(x, r) -> size(l) + f(r) end", "", "", "54+4+8+10+90 + 166+80 a + 80 a^2", "18 + 29 a + 11 a^2")
	last(t, helpers+"fun f (l : list, m : list) : list = match l with Nil -> Nil | Cons(x, r) -> let n = size(app(l, m)) in f(r, m) end", "", "4 + 8 a + 4 a^2", "54+4+8+6+16+86+80+320+16 + 80 b + 590+406 a + 160 a b + 406 a^2 + 80 a^2 b", "5+57 + 11 b + 62+44 a + 22 a b + 44 a^2 + 11 a^2 b")
}

// tower is so many functions, each of which calls the one ahead once for each step down the parameter of a letter, and the one after another.
func tower(letters string) string {
	l := []string{"fun f0 (x : list, y : list, z : list, v : list) : int = 0"}
	for i, letter := range strings.Split(letters, "") {
		args := strings.Replace("x, y, z, v", letter, "r", 1)
		l = append(l, "fun f"+strconv.Itoa(i+1)+" (x : list, y : list, z : list, v : list) : int = match "+letter+" with Nil -> 0 | Cons(_, r) -> let n = f"+strconv.Itoa(i)+"(x, y, z, v) in f"+strconv.Itoa(i+1)+"("+args+") end")
	}
	return strings.Join(l, "\n")
}

// P14.2: ErrBig of a power above MaxExp, of more than MaxTerms terms, at the function's place
func TestDownTooGreat(t *testing.T) {
	terms := func(letters string) int {
		l := found(t, house+tower(letters)+start).Funs
		return len(l[len(l)-1].Steps)
	}
	great := func(letters string) {
		at := strings.LastIndex(tower(letters), "fun")
		tooBig(t, tower(letters)[:at]+"@"+tower(letters)[at:])
	}
	if got := terms("xxxxxx"); got != 7 {
		t.Errorf("%d terms, want 7", got)
	}
	great("xxxxxxx")
	great("vvvvvvv")
	if got := terms("xxxyyyzzz"); got != api.MaxTerms {
		t.Errorf("%d terms, want MaxTerms", got)
	}
	great("xxxyyyzzzv")
	if got := terms("xxxxxxyyyyyy"); got != 49 {
		t.Errorf("%d terms, want 49", got)
	}
	great("xxxxxxyyyyyyz")
}
