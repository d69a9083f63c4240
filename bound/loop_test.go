package bound_test

import (
	"strconv"
	"strings"
	"testing"

	"handloom/api"
)

// helpers is functions that loops' Kids call: one that has as many steps as there are words, one that tells more, one that tells a product.
const helpers = `fun size (l : list) : int = match l with Nil -> 0 | Cons(_, r) -> 1 + size(r) end
fun app (a : list, b : list) : list = match a with Nil -> b | Cons(x, r) -> Cons(x, app(r, b)) end
fun fork (a : tree, b : tree) : tree = Node(a, 1, b)
`

// P14.2: the helpers themselves
func TestBoundOfHelpers(t *testing.T) {
	last(t, "fun size (l : list) : int = match l with Nil -> 0 | Cons(_, r) -> 1 + size(r) end", "", "", "80 + 80 a", "11 + 11 a")
	last(t, "fun app (a : list, b : list) : list = match a with Nil -> b | Cons(x, r) -> Cons(x, app(r, b)) end", "4 + b + 4 a + a b", "4 + 4 a", "6+48+4+8+4+8+8 + 6+48+4+8+4+8+8 a", "11 + 11 a")
	last(t, helpers, "5 + b + a", "5", "22", "7")
}

// P14.2: an unknown that the second Kid's Size has 1 time: what is added to it is added Num times
func TestLoopsThatAdd(t *testing.T) {
	last(t, "fun f (l : list) : list = for 3 with x = l do Cons(1, x)", "12 + a", "12", "8+4+3*22", "7")
	last(t, "fun f (l : list) : list = for 1 with x = l do Cons(1, Cons(2, x))", "8 + a", "8", "8+4+34", "8")
	last(t, "fun f (l : list) : list = for 1000 with x = l do Cons(1, x)", "4000 + a", "4000", "8+4+1000*22", "7")
	last(t, "fun f (l : list, t : tree) : tree = for 5 with x = t do Node(t, 1, x)", "25 + 6 b", "25", "8+4+5*28", "9")
	last(t, "fun f (l : list) : list = for 3 with x = Cons(1, l) do Cons(2, x)", "16 + a", "16", "8+16+3*22", "7")
	last(t, "fun f (l : list) : list = for 3 with x = l do x", "a", "", "8+4+3*10", "5")
	last(t, "fun f (l : list) : list = for 3 with x = l do match x with Nil -> Nil | Cons(_, r) -> r end", "a", "", "8+4+3*68", "13")
	last(t, "fun f (l : list) : list = for 3 with x = l do if True then x else Cons(1, x)", "12 + a", "12", "8+4+3*36", "9")
	last(t, "fun f (l : list, m : list) : list = for 3 with x = l do if True then Cons(1, x) else m", "12 + 3 b + a", "12", "8+4+3*36", "9")
	last(t, helpers+"fun f (l : list, t : tree) : tree = for 3 with x = t do fork(fork(Leaf, x), t)", "30 + 4 b", "30", "8+4+3*(6+8+38+4+22)", "13")
	last(t, "fun f (b : bytes) : note = for 2 with x = Blank do Note(b, x)", "8 + 2 a", "8", "8+4+2*22", "7")
}

// P14.2: one that it has not: the greater of both
func TestLoopsThatDoNotAdd(t *testing.T) {
	last(t, "fun f (l : list) : list = for 3 with x = l do Nil", "a", "", "8+4+3*10", "5")
	last(t, "fun f (l : list, m : list) : list = for 5 with x = l do m", "b + a", "", "8+4+5*10", "5")
	last(t, "fun f (l : list) : list = for 5 with x = Cons(1, l) do Cons(2, Cons(3, l))", "8 + a", "4+40", "8+16+5*34", "8")
	last(t, "fun f (b : bytes) : bytes = for 5 with x = b do cat(x, x)", "10 + a", "50", "8+4+5*22", "7")
	last(t, "fun f (b : bytes) : bytes = for 5 with x = cat(b, b) do b", "10 + a", "10", "8+16+5*10", "5")
	last(t, helpers+"fun f (l : list, m : list) : list = for 7 with x = l do app(m, m)", "4 + 5 b + b^2 + a", "28 + 28 b", "8+4+7*(6+8+8+86) + 7*86 b", "17 + 11 b")
}

// P14.2: a Num of 0, and a great one: what the first Kid has counts in any case
func TestLoopsByTimes(t *testing.T) {
	last(t, "fun f (l : list) : list = for 0 with x = l do Cons(1, x)", "a", "", "12", "7")
	last(t, "fun f (l : list) : list = for 0 with x = l do Cons(1, Nil)", "4 + a", "", "12", "7")
	last(t, "fun f (l : list) : list = for 0 with x = Cons(1, l) do x", "4 + a", "4", "24", "5")
	last(t, helpers+"fun f (l : list) : int = for 0 with n = size(l) do size(Cons(n, l))", "", "", "98 + 80 a", "59 + 11 a")
	last(t, "fun f (n : int) : int = for 1000 with n = n do n + 1", "", "", "22012", "7")
	last(t, "fun f (n : int) : int = for 0 with n = n + 1 do n", "", "", "24", "5")
}

// P14.2: Words, Steps and Peak of the second Kid by what the name has at most
func TestLoopsByTheirUnknown(t *testing.T) {
	last(t, helpers+"fun f (l : list) : list = for 2 with x = l do let n = size(x) in Cons(n, x)", "8 + a", "8", "12+2*(120+80*8) + 160 a", "15+11*8 + 11 a")
	last(t, helpers+"fun f (l : list, m : list) : list = for 2 with x = l do let n = size(x) in m", "b + a", "", "12+2*(6+8+90+4) + 160 b + 160 a", "15 + 11 b + 11 a")
	last(t, helpers+"fun f (l : list, m : list) : int = for 3 with n = size(l) do size(app(l, m))", "", "12 + 12 a", "8+6+4+80+3*(6+6+8+8+86+80+80*4) + 240 b + 80+3*(86+80*4) a + 240 a b", "4+11+11*4 + 11 b + 44 a + 11 a b")
	// of flat types there is none
	last(t, "fun f (n : int, c : color) : (int * color) = (for 3 with x = n do x, for 3 with x = c do x)", "4", "4", "8+12+30+12+30", "6")
}

// P14.2: loops within loops: each has an unknown of its own, and so have those behind one another
func TestLoopsInLoops(t *testing.T) {
	last(t, "fun f (l : list) : list = for 2 with x = l do for 3 with y = x do Cons(1, y)", "24 + a", "24", "12+2*(6+12+66)", "9")
	last(t, "fun f (l : list) : list = for 2 with x = l do for 3 with y = l do Cons(1, y)", "12 + a", "24", "12+2*(6+12+66)", "9")
	last(t, "fun f (t : tree) : tree = for 2 with x = t do for 1 with y = t do Node(x, 1, y)", "10 + 3 a", "10", "12+2*(6+12+28)", "11")
	last(t, "fun f (l : list, m : list) : list = for 2 with x = (for 3 with y = l do Cons(1, y)) do for 5 with y = x do if True then Cons(2, y) else m", "12+2*5*4 + 10 b + a", "52", "8+12+66+2*(6+12+5*36)", "11")
	last(t, helpers+"fun f (l : list) : int = for 2 with x = size(l) do for 3 with y = size(l) do x + y", "", "", "8+90+2*(6+8+90+3*22) + 80+2*80 a", "15 + 11 a")
	last(t, "fun f (l : list) : (list * list) = (for 2 with x = l do Cons(1, x), for 3 with x = l do Cons(2, x))", "24 + 2 a", "24", "8+12+2*22+12+3*22", "8")
	last(t, "fun f (l : list) : list = let x = (for 2 with x = l do Cons(1, x)) in for 3 with x = x do Cons(2, x)", "20 + a", "20", "8+12+2*22+12+3*22", "8")
	grows(t, "@fun f (t : tree) : tree = for 2 with x = t do for 3 with y = t do Node(x, 1, y)")
}

// P14.2: ErrGrow, where the second Kid's Size has the unknown several times, or in a product; also if Num is 0
func TestLoopsThatGrow(t *testing.T) {
	for _, times := range []string{"0", "1", "1000"} {
		head := "@fun f (t : tree, l : list) : tree = for " + times + " with x = t do "
		grows(t, head+"Node(x, 1, x)")
		grows(t, head+"Node(x, 1, Node(t, 2, x))")
		grows(t, head+"let y = Node(t, 1, x) in Node(y, 1, y)")
		grows(t, head+"match x with Leaf -> Leaf | Node(a, n, b) -> Node(b, n, a) end")
		grows(t, head+"if True then t else Node(x, 1, x)")
		grows(t, helpers+head+"fork(x, x)")
		head = "@fun f (l : list) : list = for " + times + " with x = l do "
		grows(t, helpers+head+"app(x, l)")
		grows(t, helpers+head+"app(l, x)")
		grows(t, helpers+head+"app(x, x)")
		grows(t, helpers+head+"if True then x else app(x, l)")
		grows(t, helpers+head+"app(x, Nil)")
		last(t, helpers+"fun f (l : list) : list = for "+times+" with x = l do if False then l else x", map[string]string{"0": "a", "1": "2 a", "1000": "1001 a"}[times], "", "8+4+"+times+"*24", "9")
	}
	// the inner one is met, and the outer one
	grows(t, "@fun f (t : tree) : tree = for 2 with x = t do for 2 with y = x do Node(y, 1, y)")
	grows(t, "@fun f (t : tree) : tree = for 2 with x = t do for 2 with y = Node(x, 1, x) do y")
	grows(t, "@fun f (t : tree) : int = let n = (for 2 with x = t do Node(x, 1, x)) in 3")
	grows(t, "@fun f (t : tree) : int = for 2 with n = 0 do match for 2 with x = t do Node(x, 1, x) with _ -> n end")
	// a tuple's part is as great as the whole
	grows(t, "@fun f (l : list) : (list * list) = for 2 with x = (l, l) do match x with (a, b) -> (b, a) end")
}

// nestedLoops is so many loops, each in the second Kid of the one around it, and what the last one does.
func nestedLoops(count int, inner string) string {
	return strings.Repeat("for 2 with x = l do ", count) + inner
}

// P14.2: MaxLoops of them, and one deeper: ErrBig, whatever it does
func TestMaxLoops(t *testing.T) {
	const head = "fun f (l : list) : list = "
	steps := "4"
	for count := 1; count <= api.MaxLoops; count++ {
		steps = "12+2*(6+" + steps + ")"
		last(t, head+nestedLoops(count, "l"), strconv.Itoa(1)+" a", "", steps, strconv.Itoa(3+2*count))
	}
	tooBig(t, "@"+head+nestedLoops(6, "l"))
	tooBig(t, "@"+head+nestedLoops(7, "x"))
	tooBig(t, "@"+head+nestedLoops(20, "l"))
	tooBig(t, "@"+head+nestedLoops(5, "for 0 with x = l do x"))
	tooBig(t, "@"+head+nestedLoops(5, "let n = (for 1 with n = 0 do n) in l"))
	tooBig(t, "@"+head+nestedLoops(4, "let n = (for 1 with n = 0 do for 1 with m = 0 do n) in l"))
	faults(t, "queue 1 state int cap 0 = @"+strings.Repeat("for 0 with n = 1 do ", 6)+"n", api.ErrBig)
	faults(t, "queue 1 state int cap 0 = 1 @on h (n : int cap 0) = (n, "+strings.Repeat("for 0 with n = Done do ", 6)+"n)", api.ErrBig)
	// those in first Kids, and in functions that are called, count for themselves
	first(t, "int", "for 1 with x = (for 1 with x = (for 1 with x = (for 1 with x = (for 1 with x = (for 1 with x = 0 do 1) do 2) do 3) do 4) do 5) do 6", "", "", "6*18+4", "5")
	last(t, head+nestedLoops(4, "for 2 with x = (for 3 with y = x do y) do x"), "a", "", "12+2*(6+12+2*(6+12+2*(6+12+2*(6+8+42+2*10))))", "13")
	last(t, "fun g (l : list) : list = "+nestedLoops(5, "Cons(1, x)")+" "+head+nestedLoops(5, "g(x)"), "16 + a", "32*128", "12+2*(6+12+2*(6+12+2*(6+12+2*(6+12+2*(6+6+4+12+2*(6+12+2*(6+12+2*(6+12+2*(6+12+2*22)))))))))", "27")
}
