package cover_test

import (
	"slices"
	"strconv"
	"strings"
	"testing"

	"handloom/api"
	"handloom/check"
	"handloom/cover"
)

// checks holds what Check tells against the second reading, and is it.
func checks(t *testing.T, p api.Prog) api.Fault {
	t.Helper()
	got, want := cover.Check(p), wantCheck(p)
	if got != want {
		t.Fatalf("Check(%s) = %v, want %v", short(p), got, want)
	}
	return got
}

// wrong wants a text to have a fault where @ stands in it; without @ it is to have none.
func wrong(t *testing.T, src string, err api.Errno) {
	t.Helper()
	want := api.Fault{Err: err}
	ahead, behind, ok := strings.Cut(src, "@")
	if ok {
		want.At = place(1+strings.Count(ahead, "\n"), len(ahead)-strings.LastIndex(ahead, "\n"))
	}
	if got := checks(t, prog(t, ahead+behind)); got != want {
		t.Errorf("Check of %q = %v, want %v", src, got, want)
	}
}

// fine wants a text with house's types to have no fault.
func fine(t *testing.T, src string) {
	t.Helper()
	wrong(t, house+src, api.OK)
}

const start = "queue 1 state int cap 0 = 0\n"

// P10.3: programs with whose matches nothing is wrong
func TestCheckOfRight(t *testing.T) {
	fine(t, start)
	fine(t, "fun f (l : list) : int = match l with Nil -> 0 | Cons(x, r) -> x + f(r) end "+start)
	fine(t, "fun f (n : int) : color = match n with 0 -> Red | 1 -> Green | _ -> Blue end "+start)
	fine(t, "fun f (n : int) : int = match n with m -> m end "+start)
	fine(t, "fun f (b : bytes) : int = match b with c -> len(c) end "+start)
	fine(t, "fun f (a : color, b : color) : bool = match (a, b) with (Red, Red) -> True | (Green, Green) -> True | (Blue, Blue) -> True | _ -> False end "+start)
	fine(t, "fun f (p : pair) : color = match p with Pair(c, True) -> c | Swap(False, c) -> c | Pair(_, False) -> Red | Swap(True, Blue) -> Green | Swap(_, c) -> c end "+start)
	fine(t, "fun f (s : six) : int = match s with Six(n, b, Nil, Leaf, One(c), (m, True)) -> n + m | Six(_, _, Cons(x, _), _, _, _) -> x | _ -> 0 end "+start)
	fine(t, "queue 2 timers 1 state list cap 20 = Nil on add (n : int cap 0) = match state with Nil -> (Cons(n, Nil), Done) | Cons(m, r) -> (Cons(n, state), Say(m, Done)) end on alarm (k : int cap 0) = (state, Done)")
	fine(t, "queue 1 state color cap 0 = match 1 < 2 with True -> Red | False -> match 2 with 2 -> Green | x -> Blue end end")
}

// P10.3: what check.Check finds is told as it is, ahead of all matches
func TestCheckNames(t *testing.T) {
	const spare = "fun f (b : bool) : int = match b with _ -> 1 | True -> 2 end fun g (n : int) : int = match n with 1 -> 1 end "
	wrong(t, spare+"queue 1 state int cap 0 = @x", api.ErrName)
	wrong(t, spare+"queue 1 state int cap 0 = @True", api.ErrType)
	wrong(t, spare+"@fun f (x : int) : int = x "+start, api.ErrTwice)
	wrong(t, spare+"timers 2 queue 1 state int cap 0 = @0", api.ErrMiss)
	wrong(t, "@type t = A of t "+spare+start, api.ErrEmpty)
	wrong(t, "type t = A @type u = A "+spare+start, api.ErrTwice)
	wrong(t, spare+"fun h (n : int) : int = match n with @True -> 1 end "+start, api.ErrType)
	wrong(t, spare+start+"on a (n : int cap 0) = match n with @Not(x) -> (n, Done) end", api.ErrName)
	for _, spoil := range []func(p *api.Prog){
		func(p *api.Prog) { *p = api.Prog{} },
		func(p *api.Prog) { p.Queue = 0 },
		func(p *api.Prog) { p.Init.Kind = 11 },
		func(p *api.Prog) { p.Funs[0].Body.Arms = nil },
		func(p *api.Prog) { p.Funs[0].Body.Arms = slices.Repeat(p.Funs[0].Body.Arms, 30) },
		func(p *api.Prog) { p.Funs[0].Body.Arms[1].Pat = rowPat(anyPat()) },
		func(p *api.Prog) { p.Funs[0].Body.Kids = nil },
	} {
		p := prog(t, spare+start)
		spoil(&p)
		if got := checks(t, p); got != (api.Fault{Err: api.ErrForm}) {
			t.Errorf("Check(%s) = %v, want a fault of its form", short(p), got)
		}
	}
}

// P10.3: an arm that is spare, the first of several, at its pattern
func TestCheckSpare(t *testing.T) {
	wrong(t, "fun f (b : bool) : int = match b with _ -> 1 | @True -> 2 end "+start, api.ErrSpare)
	wrong(t, "fun f (b : bool) : int = match b with True -> 1 | False -> 2 | @x -> 3 end "+start, api.ErrSpare)
	wrong(t, "fun f (b : bool) : int = match b with True -> 1 | @True -> 2 | True -> 3 | _ -> 4 | _ -> 5 end "+start, api.ErrSpare)
	wrong(t, "fun f (b : bytes) : int = match b with x -> 1 |\n  @_ -> 2 end "+start, api.ErrSpare)
	wrong(t, "fun f (n : int) : int = match n with 1 -> 1 | 2 -> 2 | 3 -> 3 | @2 -> 4 | x -> 5 end "+start, api.ErrSpare)
	wrong(t, house+"fun f (l : list) : int = match l with Nil -> 1 | Cons(_, Nil) -> 2 | Cons(_, Cons(_, _)) -> 3 | @Cons(5, _) -> 4 end "+start, api.ErrSpare)
	wrong(t, house+"fun f (a : color, b : bool) : int = match (a, b) with (Red, _) -> 1 | (_, True) -> 2 | @(Red, True) -> 3 | (x, y) -> 4 end "+start, api.ErrSpare)
	wrong(t, house+"fun f (a : color, b : bool) : int = match (a, b) with (Red, _) -> 1 | (_, True) -> 2 | (x, False) -> 3 | @(Green, False) -> 4 end "+start, api.ErrSpare)
}

// P10.3: a value that no arm takes, at the match
func TestCheckCover(t *testing.T) {
	wrong(t, "fun f (b : bool) : int = @match b with True -> 1 end "+start, api.ErrCover)
	wrong(t, "fun f (n : int) : int = 1 + (\n @match n with 1 -> 1 | 2 -> 2 | ~ 1 -> 3 end) "+start, api.ErrCover)
	wrong(t, house+"fun f (l : list) : int = @match l with Cons(x, r) -> x end "+start, api.ErrCover)
	wrong(t, house+"fun f (l : list) : int = @match l with Nil -> 0 | Cons(1, r) -> 1 | Cons(_, Cons(_, _)) -> 2 end "+start, api.ErrCover)
	wrong(t, house+"fun f (t : tree) : int = @match t with Leaf -> 0 | Node(Leaf, _, _) -> 1 | Node(_, _, Leaf) -> 2 end "+start, api.ErrCover)
	wrong(t, "fun f (a : act) : int = @match a with Done -> 0 | Say(_, _) -> 1 | Tell(_, _) -> 2 | Arm(_, _, _) -> 3 end "+start, api.ErrCover)
	wrong(t, house+"fun f (a : color, b : color) : int = @match (a, b) with (Red, _) -> 1 | (_, Red) -> 2 | (Green, Green) -> 3 | (Blue, _) -> 4 end "+start, api.ErrCover)
}

// armsOf is arms of patterns of an int and a pair of ints: first so many of 3 parts, then of 5, then of 1; no two of more than one part take the same.
func armsOf(three, five, one int) string {
	var l []string
	for i := range three {
		l = append(l, "("+strconv.Itoa(i)+", _) -> 0")
	}
	for i := range five {
		l = append(l, "("+strconv.Itoa(100+i)+", (5, _)) -> 0")
	}
	for range one {
		l = append(l, "_ -> 0")
	}
	return strings.Join(l, " | ")
}

// P10.3: patterns that are with all of their parts MaxPats, and one more
func TestCheckMany(t *testing.T) {
	for _, c := range []struct {
		three, five, one int
		err              api.Errno
	}{
		{21, 0, 1, api.OK}, {11, 6, 1, api.OK}, {1, 12, 1, api.OK}, {20, 0, 1, api.OK}, {18, 2, 0, api.ErrCover}, {21, 0, 0, api.ErrCover}, {0, 12, 0, api.ErrCover},
		{20, 1, 0, api.ErrMany}, {0, 13, 0, api.ErrMany}, {21, 0, 2, api.ErrMany}, {19, 1, 3, api.ErrMany}, {22, 0, 1, api.ErrMany}, {31, 1, 0, api.ErrMany}, {0, 32, 0, api.ErrMany},
	} {
		at := "@"
		if c.err == api.OK {
			at = ""
		}
		wrong(t, "fun f (p : (int * (int * int))) : int = "+at+"match p with "+armsOf(c.three, c.five, c.one)+" end "+start, c.err)
	}
	// patterns of Kids and of Bodies are none of the match's own
	full := "match (1, (2, 3)) with " + armsOf(21, 0, 1) + " end"
	wrong(t, "fun f (n : int) : int = match "+full+" with 0 -> "+full+" | _ -> "+full+" end "+start, api.OK)
	wrong(t, "fun f (n : int) : int = match "+full+" with 0 -> "+full+" | _ -> @match (1, (2, 3)) with "+armsOf(20, 1, 0)+" end end "+start, api.ErrMany)
}

// P10.3: ErrMany ahead of ErrSpare ahead of ErrCover at one match
func TestCheckAtOneMatch(t *testing.T) {
	const head = "fun f (p : (int * (int * int))) : int = "
	wrong(t, head+"@match p with "+armsOf(21, 0, 0)+" | (7, _) -> 0 end "+start, api.ErrMany)
	wrong(t, head+"match p with "+armsOf(20, 0, 0)+" | @(7, _) -> 0 end "+start, api.ErrSpare)
	wrong(t, head+"@match p with "+armsOf(21, 0, 0)+" end "+start, api.ErrCover)
	wrong(t, "fun f (b : bool) : int = match b with True -> 0 | @True -> 0 end "+start, api.ErrSpare)
}

// everywhere is a program with places for matches wherever an expression may stand: they are looked at in the order of the letters.
const everywhere = `fun f (a : int, b : bool) : int = let x = #a in #b + #c
fun g (a : int, b : bool) : int = if #d < #e then #f else f(#g, #h == #i)
fun h (a : int, b : bool) : (int * act) = for 3 with x = (#j, Say(#k, Done)) do match (#l, #m) with (1, y) -> (#n, Say(#o, Done)) | (y, _) -> (#p, Done) end
queue 1 state int cap 0 = match #q with 0 -> match #r with 0 -> #s | _ -> #t end | x -> #u end
on one (n : int cap 0) = (#v, Say(#w, Done))
on two (n : int cap 0) = let y = cut("a", #x, #y) in (#z, Tell(y, Say(#A, Done)))
`

// with is everywhere with matches of which some are spoilt in a way. Where that is wrong @ stands in it: it is left in the first one.
func with(spoilt, way string) string {
	src := everywhere
	for i, letter := range spoilt {
		if i > 0 {
			way = strings.ReplaceAll(way, "@", "")
		}
		src = strings.Replace(src, "#"+string(letter), "("+way+")", 1)
	}
	for _, letter := range letters {
		src = strings.Replace(src, "#"+string(letter), "(match True with True -> 1 | False -> 2 end)", 1)
	}
	return src
}

const letters = "abcdefghijklmnopqrstuvwxyzA"

// P10.3: of several matches that are wrong the first one is told: Fun by Fun, Init, Hand by Hand, from the left
func TestCheckInOrder(t *testing.T) {
	wrong(t, with("", ""), api.OK)
	for i := range len(letters) {
		for k := i; k < len(letters); k++ {
			both := letters[i:i+1] + letters[k:k+1]
			wrong(t, with(both, "@match True with True -> 1 end"), api.ErrCover)
			wrong(t, with(both, "match True with x -> 1 | @False -> 1 end"), api.ErrSpare)
		}
		wrong(t, with(letters[i:], "match True with True -> 1 | False -> 2 | @x -> 1 end"), api.ErrSpare)
	}
}

// P10.3: a match is looked at behind its Kid, ahead of its Bodies
func TestCheckNested(t *testing.T) {
	const bad, good = "match True with True -> 1 end", "match True with True -> 1 | False -> 2 end"
	wrong(t, "queue 1 state int cap 0 = match (@"+bad+") with 1 -> "+bad+" end", api.ErrCover)
	wrong(t, "queue 1 state int cap 0 = @match ("+good+") with 1 -> "+bad+" end", api.ErrCover)
	wrong(t, "queue 1 state int cap 0 = match ("+good+") with 1 -> @"+bad+" | _ -> "+bad+" end", api.ErrCover)
	wrong(t, "queue 1 state int cap 0 = match ("+good+") with 1 -> "+good+" | _ -> @"+bad+" end", api.ErrCover)
	wrong(t, "queue 1 state int cap 0 = match ("+good+") with 1 -> "+bad+" | @1 -> "+bad+" end", api.ErrSpare)
	wrong(t, "queue 1 state int cap 0 = match (match (@"+bad+") with 2 -> "+bad+" end) with 1 -> 2 end", api.ErrCover)
	wrong(t, "queue 1 state int cap 0 = match (@match ("+good+") with 2 -> "+bad+" end) with 1 -> 2 end", api.ErrCover)
	wrong(t, "queue 1 state int cap 0 = match (match ("+good+") with 2 -> "+good+" | _ -> @"+bad+" end) with 1 -> 2 end", api.ErrCover)
}

// P10.3: what names are, wherever they come from: a match is held against the type that its Kid has there. What stands between [ and ] is such a Kid.
func TestCheckTypesOfKids(t *testing.T) {
	for _, c := range []struct{ right, wrong string }{
		{" with Red -> 1 | Green -> 2 | Blue -> 3 end", " with Red -> 1 | Green -> 2 end"},
		{" with True -> 1 | False -> 2 end", " with False -> 1 end"},
		{" with 1 -> 1 | _ -> 2 end", " with 1 -> 1 | 2 -> 2 end"},
	} {
		for _, body := range kidsOfMatches()[c.right[6:7]] {
			src := house + "fun g (l : list) : color = Red fun f " + body + " " + start
			fill := func(arms string) string { return strings.NewReplacer("[", "match ", "]", arms).Replace(src) }
			wrong(t, fill(c.right), api.OK)
			src = strings.Replace(src, "[", "@[", 1)
			wrong(t, fill(c.wrong), api.ErrCover)
		}
	}
	for _, body := range []string{"(x : bytes) : int = [x]", "(x : bytes) : int = [cat(x, x)]", "(x : bytes) : int = [cut(x, 1, 2)]", "(x : int) : int = [\"a\"]", "(x : one) : int = match x with One(x) -> [x] end"} {
		fill := func(arms string) string {
			return strings.NewReplacer("[", "match ", "]", arms).Replace(house + "fun f " + body + " " + start)
		}
		wrong(t, fill(" with y -> 1 end"), api.OK)
		wrong(t, fill(" with y -> 1 | @_ -> 2 end"), api.ErrSpare)
	}
	wrong(t, "queue 1 state bool cap 0 = True on a (n : int cap 0) = @match state with True -> (state, Done) end", api.ErrCover)
	wrong(t, "queue 1 state bool cap 0 = True on a (n : bool cap 0) = match (state, n) with (True, True) -> (n, Done) | (False, _) -> (n, Done) | @(False, True) -> (n, Done) | _ -> (state, Done) end", api.ErrSpare)
	wrong(t, "queue 1 state int cap 0 = 0 on a (n : bool cap 0) = @match n with True -> (state, Done) end", api.ErrCover)
}

// kidsOfMatches is functions with matches of colors, of bools, of numbers, by how the first of their patterns begins.
func kidsOfMatches() map[string][]string {
	return map[string][]string{
		"R": {
			"(x : color) : int = [x]", "(x : bool, y : color) : int = [y]", "(x : bool) : int = let x = Blue in [x]", "(x : bool) : int = let y = (let x = Blue in x) in [y]",
			"(x : list) : int = [g(x)]", "(x : bool) : int = [if x then Red else Blue]", "(x : color) : int = for 3 with y = 1 do [x]", "(x : bool) : int = [for 3 with x = Red do x]",
			"(x : bool) : int = match (for 2 with x = Red do x, 1) with (y, _) -> [y] end", "(x : (color * bool)) : int = match x with (x, y) -> [x] end",
			"(x : (color * (bool * pair))) : int = match x with (_, (_, Pair(c, True))) -> [c] | (c, _) -> [c] end", "(x : pair) : int = match x with Swap(b, x) -> [x] | Pair(_, _) -> 0 end",
			"(x : bool) : int = [match x with True -> Red | False -> Green end]", "(x : color) : int = match x with y -> [y] end",
			"(x : color) : int = match (x, x) with y -> match y with (z, _) -> [z] end end", "(x : bool) : int = let x = Red in match (let x = True in x) with True -> [x] | _ -> 1 end",
			"(x : bool) : int = match (Pair(Red, x), Cons(1, Nil)) with (Pair(y, _), Cons(z, _)) -> [y] | (Swap(_, y), _) -> [y] | (_, Nil) -> 0 end",
		},
		"T": {
			"(x : bool) : int = [x]", "(x : int) : int = [x < 1]", "(x : int) : int = [x <= 1]", "(x : int) : int = [x == 1]", "(x : color) : int = let x = True in [x]",
			"(x : pair) : int = match x with Pair(x, b) -> [b] | Swap(b, x) -> [b] end", "(x : six) : int = match x with Six(_, _, _, _, _, (_, b)) -> [b] end",
		},
		"1": {
			"(x : int) : int = [x]", "(x : bytes) : int = [len(x)]", "(x : bytes) : int = [at(x, 1)]", "(x : int) : int = [5]", "(x : int) : int = [x + 1]", "(x : int) : int = [x % 2]",
			"(x : list) : int = match x with Cons(n, _) -> [n] | Nil -> 0 end", "(x : int) : int = [f(x)]",
		},
	}
}

// P10.3: programs that look like chance, with matches in each other
func TestCheckOfMany(t *testing.T) {
	s := sower(521288629)
	m := maker{sower: &s, all: home(t)}
	seen := map[api.Errno]int{}
	for i := range 1500 {
		m.slip = []int{0, 2, 10, 40}[i%4]
		p := numbered(m.prog())
		if f := check.Check(p); f != (api.Fault{}) {
			t.Fatalf("%s has the fault %v", short(p), f)
		}
		got := checks(t, p)
		if m.slip == 0 && got != (api.Fault{}) {
			t.Fatalf("a program that is right has the fault %v", got)
		}
		seen[got.Err]++
	}
	for _, err := range []api.Errno{api.OK, api.ErrSpare, api.ErrCover} {
		if seen[err] < 50 {
			t.Errorf("%d programs had the fault %d: too few", seen[err], err)
		}
	}
}

// P10.3: each field of a program by itself
func TestCheckByOneField(t *testing.T) {
	p := prog(t, `type list = Nil | Cons of int * list type color = Red | Green
fun f (l : list, c : color) : int = match (l, c) with (Nil, Red) -> 1 | (Cons(x, _), _) -> x | (_, Green) -> 2 end
queue 1 state list cap 9 = Cons(f(Nil, Red), Nil)
on add (n : int cap 0) = match n with 0 -> (state, Done) | x -> (Cons(x, state), match state with Nil -> Done | Cons(_, _) -> Say(x, Done) end) end`)
	p = numbered(p)
	if got := checks(t, p); got != (api.Fault{}) {
		t.Fatalf("Check = %v", got)
	}
	seen := map[api.Errno]int{}
	changes(p, func(c api.Prog) { seen[checks(t, c).Err]++ })
	for _, err := range []api.Errno{api.OK, api.ErrForm, api.ErrName, api.ErrType, api.ErrCount, api.ErrSpare, api.ErrCover} {
		if seen[err] == 0 {
			t.Errorf("no program had the fault %d", err)
		}
	}
}

// P10.3: the place is the match's, or the pattern's, whatever it is
func TestCheckPlaces(t *testing.T) {
	for _, at := range []api.Pos{{}, {Line: -3, Col: 1 << 40}, {Line: 7, Col: 7}} {
		p := prog(t, "fun f (b : bool) : int = match b with True -> 1 | False -> 2 end "+start)
		spoilt := func(err api.Errno, spoil func(e *api.Expr)) {
			t.Helper()
			p := twin(p)
			spoil(&p.Funs[0].Body)
			if got, want := checks(t, p), (api.Fault{Err: err, At: at}); got != want {
				t.Errorf("Check = %v, want %v", got, want)
			}
		}
		spoilt(api.ErrCover, func(e *api.Expr) { e.At, e.Arms = at, e.Arms[:1] })
		spoilt(api.ErrSpare, func(e *api.Expr) { e.Arms[1].Pat = api.Pat{Kind: api.PtCon, Name: "True", At: at} })
		spoilt(api.ErrMany, func(e *api.Expr) {
			wide := rowPat(blanks(6)...)
			e.At, e.Kids[0] = at, row(num(1), num(2), num(3), num(4), num(5), num(6))
			e.Arms = slices.Repeat([]api.Arm{arm(wide, num(1))}, 10)
		})
	}
}

// P10.3: a match on values that are all too deep has an arm that takes none
func TestCheckOfDeepTypes(t *testing.T) {
	for _, c := range []struct {
		count, depth int
		err          api.Errno
	}{{27, 36, api.OK}, {27, 37, api.ErrSpare}, {31, 62, api.ErrSpare}} {
		l := chain(c.count, c.depth)
		at := place(3, 3)
		p := api.Prog{Datas: l[2:], Queue: 1, Funs: []api.Fun{{
			Name: "f", Params: []api.Param{param("x", data("c0"))}, Result: number(),
			Body: match(variable("x"), arm(api.Pat{Kind: api.PtVar, Name: "y", At: at}, num(1))),
		}}}
		if got := cover.Check(p); got.Err != c.err || c.err != api.OK && got.At != at {
			t.Errorf("Check of a chain of %d, %d = %v, want %d", c.count, c.depth, got, c.err)
		}
	}
}
