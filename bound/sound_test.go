package bound_test

import (
	"strings"
	"testing"

	"handloom/api"
	"handloom/bound"
	"handloom/eval"
	"handloom/poly"
	"handloom/value"
)

// most is more words than there are in any value of these tests.
const most = 1 << 20

// tally is how often a cost was held against a bound, how often the two were the same, and how often the bound was too great to be a number.
type tally struct{ held, tight, great int }

// within wants what was spent, and what is told, to be at most a bound, At the words of what it was told of: slots is how many those had.
func (y *tally) within(t *testing.T, what string, b api.Bound, words []int64, slots int, v api.Value, c api.Cost) {
	t.Helper()
	for _, it := range []struct {
		name  string
		bound api.Poly
		got   int
	}{{"Size", b.Size, value.Size(v, most)}, {"Words", b.Words, c.Words}, {"Steps", b.Steps, c.Steps}, {"Peak", b.Peak, c.Peak - slots}} {
		n, err := poly.At(it.bound, words)
		if err != api.OK {
			y.great++
			continue
		}
		if int64(it.got) > n {
			t.Fatalf("%s: its %s is %d, but at the words %v its bound %s is %d", what, it.name, it.got, words, written(it.bound), n)
		}
		if y.held++; int64(it.got) == n {
			y.tight++
		}
	}
}

func wordsOf(args []api.Value) []int64 {
	var l []int64
	for _, v := range args {
		l = append(l, int64(value.Size(v, most)))
	}
	return l
}

// call holds what a function costs, called with values, against its bound; false: it has too many steps.
func (y *tally) call(t *testing.T, p api.Prog, b api.Bounds, at int, args []api.Value) bool {
	t.Helper()
	f := p.Funs[at]
	v, c, err := eval.Call(p, f.Name, args, api.MaxFuel)
	if err == api.ErrFuel {
		return false
	}
	if err != api.OK {
		t.Fatalf("Call(%s, %s, %s): %d", short(p), f.Name, short(args), err)
	}
	y.within(t, f.Name+" of "+short(p), b.Funs[at], wordsOf(args), len(args), v, c)
	return true
}

func (y *tally) first(t *testing.T, p api.Prog, b api.Bounds) {
	t.Helper()
	if v, c, err := eval.Init(p, api.MaxFuel); err == api.OK {
		y.within(t, "Init of "+short(p), b.Init, nil, 0, v, c)
	}
}

func (y *tally) hand(t *testing.T, p api.Prog, b api.Bounds, at int, state, v api.Value) {
	t.Helper()
	h := p.Hands[at]
	told, c, err := eval.Hand(p, h.Name, state, v, api.MaxFuel)
	if err == api.OK {
		y.within(t, h.Name+" of "+short(p), b.Hands[at], wordsOf([]api.Value{state, v}), 2, told, c)
	}
}

// P14.3: programs that look like chance, called with values that do
func TestSoundOfMany(t *testing.T) {
	s := sower(521288629)
	m := newMaker(t, &s)
	var funs, inits, hands tally
	for i := range 700 {
		m.wild = []int{1, 2, 6, 20}[i%4]
		p := m.prog()
		b, fault := bound.Of(p)
		if fault != (api.Fault{}) {
			continue
		}
		for at, f := range p.Funs {
			for range 3 {
				funs.call(t, p, b, at, m.argsFor(f.Params))
			}
		}
		inits.first(t, p, b)
		for at, h := range p.Hands {
			hands.hand(t, p, b, at, m.aValue(p.State, 6), m.aValue(h.Param.Type, 6))
		}
	}
	if funs.held < 20000 || funs.tight < 4000 || inits.held < 2000 || inits.tight < 1000 || hands.held < 2000 || hands.tight < 1000 {
		t.Errorf("%+v, %+v, %+v: too few", funs, inits, hands)
	}
}

// listOf is a list of so many numbers.
func listOf(count int) api.Value {
	return nested(count, api.Value{Kind: api.VaCon, Name: "Nil"}, func(v api.Value) api.Value {
		return api.Value{Kind: api.VaCon, Name: "Cons", Kids: []api.Value{{Num: int64(count)}, v}}
	})
}

// treeOf is a tree that is so deep on one side, or on both.
func treeOf(depth int, both bool) api.Value {
	leaf := api.Value{Kind: api.VaCon, Name: "Leaf"}
	return nested(depth, leaf, func(v api.Value) api.Value {
		other := leaf
		if both {
			other = v
		}
		return api.Value{Kind: api.VaCon, Name: "Node", Kids: []api.Value{v, {}, other}}
	})
}

// P14.3: functions that go down, of lists and trees of many sizes
func TestSoundOfDown(t *testing.T) {
	const src = house + helpers + `fun rev (a : list, b : list) : list = match a with Nil -> b | Cons(x, r) -> rev(r, Cons(x, b)) end
fun sum (l : list, n : int) : int = match l with Nil -> n | Cons(x, r) -> sum(r, n + x) end
fun pairs (a : list, b : list) : list = match a with Nil -> Nil | Cons(x, r) -> let n = size(b) in Cons(n, pairs(r, b)) end
fun cube (a : list, b : list) : int = match a with Nil -> 0 | Cons(x, r) -> sum(pairs(b, b), 1) + cube(r, b) end
fun more (a : list, b : tree, c : tree) : tree = match a with Nil -> b | Cons(x, r) -> more(r, Node(b, x, c), c) end
fun left (t : tree, b : tree) : tree = match t with Leaf -> b | Node(x, n, y) -> left(x, Node(b, n, t)) end
fun twice (a : list, b : list) : list = match a with Nil -> b | Cons(x, r) -> for 3 with y = twice(r, Cons(x, b)) do Cons(1, y) end
fun deep (t : tree) : int = match t with Leaf -> 0 | Node(a, n, b) -> if n < 1 then 1 + deep(a) else 1 + deep(b) end
fun loops (a : list) : list = for 3 with x = a do for 4 with y = x do Cons(size(app(x, a)), y)
`
	p, b := prog(t, src+start), found(t, src+start)
	var y tally
	runs := map[string]int{}
	for at, f := range p.Funs {
		for n := range 14 {
			for m := range 8 {
				var args []api.Value
				for k, param := range f.Params {
					size := []int{n, m, n + m}[k]
					switch param.Type.Name {
					case "list":
						args = append(args, listOf(size))
					case "tree":
						args = append(args, treeOf(min(size, 6+6*(size%2)), size%2 == 0))
					default:
						args = append(args, api.Value{Num: int64(size)})
					}
				}
				if y.call(t, p, b, at, args) {
					runs[f.Name]++
				}
			}
		}
		if runs[f.Name] != 14*8 {
			t.Errorf("%s came to an end %d times", f.Name, runs[f.Name])
		}
	}
	if y.held < 4*len(p.Funs)*100 || y.tight < 400 {
		t.Errorf("%+v: too few", y)
	}
}

// P14.3: each kind of expression, as the one that costs most: what is told ahead is just what is spent
func TestTight(t *testing.T) {
	var y tally
	for of, srcs := range map[string][]string{
		"int": {"1", "1 + 2", `len("abc")`, `at("abc", 1)`, "let x = 1 in x + x", "if 1 < 2 then 3 + 4 else 5", "match 1 with 1 -> 2 | x -> x end", "for 3 with x = 1 do x + x", "for 0 with x = 1 do x", "for 2 with x = 1 do for 3 with y = x do x + y", "inc(inc(3))"},
		"list": {"Nil", "Cons(1, Nil)", "let x = Cons(1, Nil) in Cons(2, x)", "if True then Cons(1, Nil) else Nil", "for 5 with x = Cons(1, Nil) do Cons(2, Cons(3, x))",
			"for 2 with x = Nil do for 3 with y = x do Cons(1, y)", "match Cons(1, Nil) with x -> Cons(2, x) end", "push(push(Nil, 1), 2)"},
		"bytes":               {`"12345678"`, `cat("` + strings.Repeat("a", 60) + `", "abcd")`, `cut("` + strings.Repeat("a", 64) + `", 0, 64)`},
		"tree":                {"Node(Leaf, 1, Leaf)", "let t = Node(Leaf, 1, Leaf) in Node(t, 2, t)", doubled(5, "t")},
		"(int * (int * int))": {"(1, (2, 3))"},
	} {
		for _, src := range srcs {
			all := house + "fun inc (x : int) : int = x + 1 fun push (l : list, x : int) : list = Cons(x, l) queue 1 state " + of + " cap 0 = " + src
			ahead := y.tight
			if y.first(t, prog(t, all), found(t, all)); y.tight != ahead+4 {
				t.Errorf("%s: its bound is more than it costs", src)
			}
		}
	}
}
