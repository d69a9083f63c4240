package eval_test

import (
	"reflect"
	"strings"
	"testing"

	"handloom/api"
	"handloom/eval"
	"handloom/value"
)

// says wants what a call tells to have this text, and to cost so many words, steps and slots; and is its value.
func (a asking) says(t *testing.T, what, text string, words, steps, peak int) {
	t.Helper()
	got := a.ask(api.MaxFuel)
	if cost := (api.Cost{Words: words, Steps: steps, Peak: peak}); got.err != api.OK || got.cost != cost || value.Text(got.v) != text {
		t.Errorf("%s: %s at %+v, %d, want %s at %+v", what, value.Text(got.v), got.cost, got.err, text, cost)
	}
	if want := a.want(api.MaxFuel); !reflect.DeepEqual(got, want) {
		t.Errorf("%s: %s was told, want %s", what, short(got), short(want))
	}
	if again := a.ask(steps); !reflect.DeepEqual(again, got) {
		t.Errorf("%s: %s was told with the fuel %d", what, short(again), steps)
	}
	if again := a.ask(steps - 1); !reflect.DeepEqual(again, failed(api.ErrFuel)) {
		t.Errorf("%s: %s was told with the fuel %d", what, short(again), steps-1)
	}
}

// funs is functions that the tests' expressions call.
const funs = house + `fun inc (x : int) : int = x + 1
fun both (a : int, b : int) : int = inc(a) + inc(b)
fun size (l : list) : int = match l with Nil -> 0 | Cons(_, r) -> 1 + size(r) end
fun sub (a : int, b : int) : int = a - b
`

// costs wants an expression, as a program's first state, to be worth a value, by its text, and to cost so much.
func costs(t *testing.T, of, src, text string, words, steps, peak int) {
	t.Helper()
	initOf(prog(t, funs+"queue 1 state "+of+" cap 0 = "+src)).says(t, src, text, words, steps, peak)
}

// P12.2, P12.3: what has no Kids
func TestCostOfPlain(t *testing.T) {
	costs(t, "int", "0", "0", 0, 4, 1)
	costs(t, "int", "~3", "~ 3", 0, 4, 1)
	costs(t, "int", "4611686018427387903", "4611686018427387903", 0, 4, 1)
	costs(t, "list", "Nil", "Nil", 0, 4, 1)
	costs(t, "bool", "True", "True", 0, 4, 1)
	costs(t, "act", "Done", "Done", 0, 4, 1)
	for n, words := range map[int]int{0: 2, 1: 3, 7: 3, 8: 3, 9: 4, 16: 4, 17: 5, 63: 10, 64: 10} {
		src := `"` + strings.Repeat("a", n) + `"`
		costs(t, "bytes", src, src, words, 4, 1)
	}
}

// P12.2, P12.3: operators
func TestCostOfOperators(t *testing.T) {
	costs(t, "int", "1 + 2", "3", 0, 16, 5)
	costs(t, "int", "1 - 2", "~ 1", 0, 16, 5)
	costs(t, "int", "3 * 4", "12", 0, 16, 5)
	costs(t, "int", "~7 / 2", "~ 3", 0, 16, 5)
	costs(t, "int", "~7 % 2", "~ 1", 0, 16, 5)
	costs(t, "int", "7 / 0 + 7 % 0", "7", 0, 40, 6)
	costs(t, "int", "4611686018427387903 + 2", "~ 4611686018427387903", 0, 16, 5)
	costs(t, "bool", "1 < 2", "True", 0, 16, 5)
	costs(t, "bool", "2 <= 1", "False", 0, 16, 5)
	costs(t, "bool", "2 == 2", "True", 0, 16, 5)
	costs(t, "int", `len("abc")`, "3", 3, 10, 3)
	costs(t, "int", `at("abc", 1)`, "98", 3, 16, 5)
	costs(t, "int", `at("abc", 3)`, "~ 1", 3, 16, 5)
	costs(t, "bytes", `cut("abc", 1, 1)`, `"b"`, 6, 22, 7)
	costs(t, "bytes", `cut("abc", 3, 1)`, `""`, 5, 22, 7)
	costs(t, "bytes", `cat("abcd", "efghi")`, `"abcdefghi"`, 10, 16, 5)
	costs(t, "bytes", `cat("", "")`, `""`, 6, 16, 5)
	long := strings.Repeat("0123456789", 6)
	costs(t, "bytes", `cat("`+long+`", "`+long+`")`, `"`+long+`0123"`, 10+10+10, 16, 5)
	// each Kid stands at its place: the last one at the most slots
	costs(t, "int", "1 + (2 + (3 + 4))", "10", 0, 40, 7)
	costs(t, "int", "1 + 2 + 3 + 4", "10", 0, 40, 5)
	costs(t, "bytes", `cut("abc", 0, 1 + 1)`, `"ab"`, 6, 34, 7)
	costs(t, "bytes", `cut("abc", 0, 1 + (1 + 1))`, `"abc"`, 6, 46, 8)
	costs(t, "bytes", `cut("abc", 1 + (1 + 1), 1)`, `""`, 5, 46, 7)
}

// P12.2, P12.3: records
func TestCostOfRecords(t *testing.T) {
	costs(t, "list", "Cons(1, Nil)", "Cons ( 1 , Nil )", 4, 16, 5)
	costs(t, "list", "Cons(1, Cons(2, Nil))", "Cons ( 1 , Cons ( 2 , Nil ) )", 8, 28, 6)
	costs(t, "wrap", "Wrap((1, End))", "Wrap ( ( 1 , End ) )", 3+4, 22, 5)
	costs(t, "(int * int)", "(1, 2)", "( 1 , 2 )", 4, 16, 5)
	costs(t, "(int * int * int * int * int * int)", "(1, 2, 3, 4, 5, 6)", "( 1 , 2 , 3 , 4 , 5 , 6 )", 8, 40, 13)
	costs(t, "(int * (int * int))", "(1, (2, 3))", "( 1 , ( 2 , 3 ) )", 8, 28, 6)
	costs(t, "((int * int) * int)", "((1, 2), 3)", "( ( 1 , 2 ) , 3 )", 8, 28, 5)
	costs(t, "note", `Note("12345678", Note("123456789", Blank))`, `Note ( "12345678" , Note ( "123456789" , Blank ) )`, 4+3+4+4, 28, 6)
	costs(t, "tree", "Node(Leaf, 1 + 2, Leaf)", "Node ( Leaf , 3 , Leaf )", 5, 34, 7)
}

// P12.2, P12.3: lets and choices
func TestCostOfLetAndIf(t *testing.T) {
	costs(t, "int", "let x = 1 in x", "1", 0, 16, 5)
	costs(t, "(int * int)", "let x = 1 in (x, x)", "( 1 , 1 )", 4, 28, 6)
	costs(t, "(int * int)", "let x = (1, 2) in x", "( 1 , 2 )", 4, 28, 5)
	costs(t, "int", "let x = 1 in let y = 2 in let z = 3 in x + y * z", "7", 0, 3*12+28, 9)
	costs(t, "int", "let x = (let y = 1 in y + y) in x", "2", 0, 8+28+4, 6)
	costs(t, "int", "if 1 < 2 then 3 else 4", "3", 0, 30, 7)
	costs(t, "int", "if 2 < 1 then 1 + 2 else 4", "4", 0, 30, 7)
	costs(t, "int", "if 1 < 2 then 1 + 2 else 4", "3", 0, 42, 7)
	costs(t, "int", "if False then 1 else if True then 2 else 3", "2", 0, 32, 7)
	costs(t, "(int * int * int * int)", "if 1 < 2 then (1, 2, 3, 4) else (5, 6, 7, 8)", "( 1 , 2 , 3 , 4 )", 6, 54, 9)
	costs(t, "(int * int * int * int)", "if 2 < 1 then (1, 2, 3, 4) else (5, 6, 7, 8)", "( 5 , 6 , 7 , 8 )", 6, 54, 9)
	// what is not gone through costs nothing
	costs(t, "int", `if True then 3 else len("123456789") + len(cat("a", "b")) + (1 + (2 + (3 + 4)))`, "3", 0, 18, 7)
}

// P12.2, P12.3: loops of 0 times and of many
func TestCostOfLoops(t *testing.T) {
	costs(t, "int", "for 0 with x = 5 do x + x", "5", 0, 12, 5)
	costs(t, "int", "for 1 with x = 5 do 7", "7", 0, 22, 5)
	costs(t, "int", "for 1 with x = 5 do x + x", "10", 0, 34, 7)
	costs(t, "int", "for 3 with x = 1 do x + x", "8", 0, 78, 7)
	costs(t, "int", "for 1000 with x = 0 do x + 1", "1000", 0, 22012, 7)
	costs(t, "bytes", `for 2 with x = "a" do cat(x, x)`, `"aaaa"`, 9, 56, 7)
	costs(t, "list", "for 2 with x = Nil do Cons(7, x)", "Cons ( 7 , Cons ( 7 , Nil ) )", 8, 56, 7)
	costs(t, "int", "for 2 with x = 1 do for 3 with y = x do y + x", "16", 0, 12+2*(6+78), 9)
	costs(t, "int", "for 2 with x = (for 3 with y = 1 do y + y) do x + 1", "10", 0, 8+78+2*(6+16), 7)
	costs(t, "int", `for 0 with x = 5 do len(cat("a", "b")) + (1 + (2 + (3 + x)))`, "5", 0, 12, 5)
}

// P12.2, P12.3: matches: all arms count, and all of their patterns with their parts, whichever is taken
func TestCostOfMatches(t *testing.T) {
	costs(t, "int", "match 1 with x -> x end", "1", 0, 30, 5)
	costs(t, "int", "match 1 with _ -> 2 end", "2", 0, 30, 5)
	costs(t, "int", "match Cons(1, Nil) with Cons(x, r) -> x | Nil -> 0 end", "1", 4, 74, 11)
	costs(t, "int", "match Nil with Cons(x, r) -> x | Nil -> 0 end", "0", 0, 62, 11)
	costs(t, "int", "match Nil with Nil -> 0 | Cons(x, r) -> x end", "0", 0, 62, 11)
	costs(t, "int", "match Nil with Nil -> 0 | Cons(_, Nil) -> 1 | Cons(_, Cons(_, _)) -> 2 end", "0", 0, 6+8*3+8*(1+3+5)+8, 2*9+3)
	costs(t, "int", "match 1 < 2 with True -> 7 | False -> 8 end", "7", 0, 58, 7)
	costs(t, "int", "match 2 < 1 with True -> 7 | False -> 8 end", "8", 0, 58, 7)
	costs(t, "int", "match (1, (2, 3)) with (1, (x, _)) -> x | (_, (_, y)) -> y end", "2", 8, 134, 23)
	costs(t, "int", "match (0, (2, 3)) with (1, (x, _)) -> x | (_, (_, y)) -> y end", "3", 8, 134, 23)
	costs(t, "(int * int * int * int * int * int)", "match 1 with x -> (x, x, x, x, x, x) end", "( 1 , 1 , 1 , 1 , 1 , 1 )", 8, 66, 15)
	costs(t, "int", "match 5 with 3 -> 1 | ~5 -> 2 | 5 -> 3 | x -> x end", "3", 0, 6+8*8+8, 11)
	costs(t, "int", "match ~5 with 3 -> 1 | ~5 -> 2 | 5 -> 3 | x -> x end", "2", 0, 6+8*8+8, 11)
	costs(t, "int", "match 7 with 3 -> 1 | ~5 -> 2 | 5 -> 3 | x -> x end", "7", 0, 6+8*8+8, 11)
	costs(t, "bytes", `match "a" with x -> x end`, `"a"`, 3, 30, 5)
	// one in another counts for itself
	costs(t, "int", "match 1 with x -> match 2 with y -> x + y end end", "3", 0, 68, 9)
	costs(t, "int", "match match 1 with x -> x end with y -> y end", "1", 0, 56, 5)
	costs(t, "int", "match Nil with Nil -> 5 | Cons(_, r) -> match r with Nil -> 6 | Cons(_, _) -> 7 end end", "5", 0, 62, 11)
}

// P12.2, P12.3: calls: a Body stands behind two slots for each Kid
func TestCostOfCalls(t *testing.T) {
	costs(t, "int", "inc(5)", "6", 0, 26, 7)
	costs(t, "int", "inc(inc(5))", "7", 0, 48, 7)
	costs(t, "int", "1 + inc(5)", "7", 0, 38, 8)
	costs(t, "int", "both(1, 2)", "5", 0, 76, 12)
	costs(t, "int", "sub(1, 2 + 3)", "~ 4", 0, 8+4+16+16, 9)
	costs(t, "int", "sub(sub(9, 1), sub(5, 3))", "6", 0, 8+2*(8+8+16)+16, 10)
	costs(t, "int", "size(Nil)", "0", 0, 6+4+62, 2+11)
	costs(t, "int", "size(Cons(5, Nil))", "1", 4, 6+16+80+62, 2+8+11)
	for n := range 5 {
		p := prog(t, funs+start)
		l := nested(n, conVal("Nil"), func(v api.Value) api.Value { return conVal("Cons", numVal(7), v) })
		callOf(p, p.Funs[2], []api.Value{l}).says(t, "size", string(rune('0'+n)), 0, 80*n+62, 12+8*n)
	}
	p := prog(t, funs+start)
	callOf(p, p.Funs[0], vals(t, "5")).says(t, "inc", "6", 0, 16, 6)
	callOf(p, p.Funs[1], vals(t, "1", "2")).says(t, "both", "5", 0, 60, 10)
	callOf(p, p.Funs[3], vals(t, "1", "2")).says(t, "sub", "~ 1", 0, 16, 7)
}

// P12.3: a handler begins at 2 slots, state having the state, its Param the value
func TestCostOfHands(t *testing.T) {
	p := prog(t, house+`queue 2 timers 1 state int cap 0 = 0
		on add (n : int cap 0) = (state + n, Done)
		on sub (n : int cap 0) = (state - n, Say(state - n, Done))
		on alarm (k : int cap 0) = (state, Say(k, Done))
		on both (x : (int * list) cap 9) = let state2 = state in match x with (n, Nil) -> (n, Done) | (n, Cons(m, _)) -> (state2 * n + m, Stop(state, Done)) end`)
	for _, c := range []struct {
		hand               int
		state, v, text     string
		words, steps, peak int
	}{
		{0, "3", "4", "( 7 , Done )", 4, 28, 7},
		{1, "3", "4", "( ~ 1 , Say ( ~ 1 , Done ) )", 8, 52, 8},
		{2, "3", "4", "( 3 , Say ( 4 , Done ) )", 8, 28, 8},
		{3, "3", "(5, Nil)", "( 5 , Done )", 4, 8 + 4 + (6 + 16 + 64) + 4 + 16, 3 + 19},
		{3, "3", "(5, Cons(7, Nil))", "( 22 , Stop ( 3 , Done ) )", 8, 8 + 4 + (6 + 16 + 64) + 4 + 8 + 28 + 16, 3 + 19},
	} {
		h := p.Hands[c.hand]
		handOf(p, h, val(t, c.state), val(t, c.v)).says(t, h.Name, c.text, c.words, c.steps, c.peak)
	}
	p = prog(t, house+"queue 1 state list cap 0 = Nil on h (l : list cap 0) = (l, Say((match state with Nil -> 0 | Cons(n, _) -> n end), Done)) on i (l : list cap 0) = (state, Done)")
	handOf(p, p.Hands[0], val(t, "Cons(1, Nil)"), val(t, "Cons(2, Nil)")).says(t, "h", "( Cons ( 2 , Nil ) , Say ( 1 , Done ) )", 8, 8+4+8+62+4, 14)
	handOf(p, p.Hands[1], val(t, "Cons(1, Nil)"), val(t, "Cons(2, Nil)")).says(t, "i", "( Cons ( 1 , Nil ) , Done )", 4, 16, 7)
}

// P12.2: names that a let, a loop, a pattern gives anew, and as they were behind it
func TestNamesGivenAnew(t *testing.T) {
	for src, want := range map[string]string{
		"let x = 1 in (let x = 2 in x) + x * 10":                                               "12",
		"let x = 1 in let x = x + 1 in x * 10":                                                 "20",
		"let x = 1 in (let x = x + 1 in let x = x + 1 in x) * 10 + x":                          "31",
		"for 3 with x = 1 do let x = x + x in x":                                               "8",
		"let x = 5 in (for 2 with x = x + 1 do x + 1) * 10 + x":                                "85",
		"let x = 5 in for 2 with y = 1 do (let x = y in x + x) + x":                            "19",
		"let x = 1 in (match (2, 3) with (x, y) -> x * 10 + y end) * 10 + x":                   "231",
		"match 1 with x -> (match 2 with x -> x end) * 10 + x end":                             "21",
		"match (1, 2) with (5, x) -> x | (x, _) -> x end":                                      "1",
		"match (1, 2) with (x, 5) -> x | (_, x) -> x end":                                      "2",
		"let x = 7 in match (1, 2) with (5, x) -> x | _ -> x end":                              "7",
		"let x = 3 in inc(x + 1) * 10 + x":                                                     "53",
		"let a = 1 in let b = 2 in both(b, a) * 100 + a * 10 + b":                              "512",
		"let b = 1 in let a = 2 in sub(a, b) * 100 + sub(b, a) * 10 + a - b":                   "91",
		"let y = 1 in let x = 2 in let y = x in let x = y + 1 in x * 10 + y":                   "32",
		"let x = (let y = 4 in y) in let y = 3 in x * 10 + y":                                  "43",
		"match (1, (2, (3, 4))) with (a, (b, (c, d))) -> a + b * 10 + c * 100 + d * 1000 end":  "4321",
		"match Cons(1, Cons(2, Nil)) with Cons(a, Cons(b, _)) -> a * 10 + b | _ -> 0 end":      "12",
		"match Cons(1, Nil) with Nil -> 0 | Cons(_, l) -> size(l) * 10 + size(Cons(5, l)) end": "1",
	} {
		p := prog(t, funs+"queue 1 state int cap 0 = "+src)
		got, _, err := eval.Init(p, api.MaxFuel)
		if value.Text(got) != want || err != api.OK {
			t.Errorf("%s: %s, %d, want %s", src, value.Text(got), err, want)
		}
		if got, want := initOf(p).ask(api.MaxFuel), wantInit(p, api.MaxFuel); !reflect.DeepEqual(got, want) {
			t.Errorf("%s: %s was told, want %s", src, short(got), short(want))
		}
	}
}

// P12.1, P12.3: the chapter's examples
func TestExamples(t *testing.T) {
	if v, ok := eval.Do(api.OpAt, []api.Value{textVal("ab"), numVal(2)}); !ok || !reflect.DeepEqual(v, numVal(-1)) {
		t.Errorf("Do = %v, %v", v, ok)
	}
	v, c, err := eval.Init(api.Prog{Queue: 1, Init: op(api.OpAdd, num(1), num(2))}, 16)
	if !reflect.DeepEqual(v, numVal(3)) || c != (api.Cost{Steps: 16, Peak: 5}) || err != api.OK {
		t.Errorf("Init = %v, %v, %v", v, c, err)
	}
}
