package eval_test

import (
	"reflect"
	"strconv"
	"strings"
	"testing"

	"handloom/api"
	"handloom/eval"
	"handloom/halt"
	"handloom/ty"
	"handloom/value"
)

// counter is values that are as deep as one counts.
const counter = "type n = Z | S of n "

func counted(depth int) api.Value {
	return nested(depth, conVal("Z"), func(v api.Value) api.Value { return conVal("S", v) })
}

// depthOf is how many S there are, one in another.
func depthOf(v api.Value) int {
	depth := 0
	for v.Name == "S" && len(v.Kids) == 1 {
		v = v.Kids[0]
		depth++
	}
	return depth
}

// P12.2, P12.4: values as deep as may be given, and one deeper; what is told may be deeper still
func TestDeepValues(t *testing.T) {
	p := prog(t, counter+"fun f (x : n) : n = S(S(x)) fun g (x : n) : n = match x with Z -> Z | S(y) -> g(y) end queue 1 state n cap 0 = Z on h (x : n cap 0) = (S(state), Done)")
	all := ty.Datas(p)
	for _, depth := range []int{0, 997, 998, 999} {
		v := counted(depth)
		got, c, err := eval.Call(p, "f", []api.Value{v}, api.MaxFuel)
		if depthOf(got) != depth+2 || c != (api.Cost{Words: 6, Steps: 16, Peak: 4}) || err != api.OK {
			t.Errorf("of a value %d deep %d deep was told, at %+v, %d", depth+1, depthOf(got)+1, c, err)
		}
		if is := value.Of(all, got, data("n")); is != (depth+3 <= api.MaxDeep) {
			t.Errorf("a value %d deep: %v", depth+3, is)
		}
		got, c, err = eval.Call(p, "g", []api.Value{v}, api.MaxFuel)
		if steps := depth*(6+8*5+4+6+4) + 6 + 8*5 + 4 + 4; depthOf(got) != 0 || c.Words != 0 || c.Steps != steps || err != api.OK {
			t.Errorf("of a value %d deep %s was told, at %+v, want %d steps, %d", depth+1, short(got), c, steps, err)
		}
		got, _, err = eval.Hand(p, "h", v, v, api.MaxFuel)
		if len(got.Kids) != 2 || depthOf(got.Kids[0]) != depth+1 || err != api.OK {
			t.Errorf("of a state %d deep %s was told, %d", depth+1, short(got), err)
		}
	}
	for _, depth := range []int{1000, 1001, many - 1} {
		v := counted(depth)
		if got := answered(eval.Call(p, "f", []api.Value{v}, api.MaxFuel)); !reflect.DeepEqual(got, failed(api.ErrType)) {
			t.Errorf("of a value %d deep %s was told", depth+1, short(got))
		}
		if got := answered(eval.Hand(p, "h", v, counted(1), api.MaxFuel)); !reflect.DeepEqual(got, failed(api.ErrType)) {
			t.Errorf("of a state %d deep %s was told", depth+1, short(got))
		}
		if got := answered(eval.Hand(p, "h", counted(1), v, api.MaxFuel)); !reflect.DeepEqual(got, failed(api.ErrType)) {
			t.Errorf("of a value %d deep %s was told", depth+1, short(got))
		}
	}
}

// 0.1: what is gone through may stand as deep in one another as there are steps
func TestDeepCalls(t *testing.T) {
	body := strings.Repeat("S(", 61) + "f(y)" + strings.Repeat(")", 61)
	p := prog(t, counter+"fun f (x : n) : n = match x with S(y) -> "+body+" | _ -> x end queue 1 state n cap 0 = f(for 1000 with x = Z do S(S(x)))")
	got, c, err := eval.Init(p, api.MaxFuel)
	const steps = 6 + 12 + 1000*(6+6+6+4) + 2000*(6+8*5+4+61*6+6+4) + 6 + 8*5 + 4 + 4
	if depthOf(got) != 2000*61 || c.Words != 3*(2000*61+2000) || c.Steps != steps || err != api.OK {
		t.Errorf("%d deep was told, at %+v, want %d steps, %d", depthOf(got), c, steps, err)
	}
	// calls stand deeper than they come to an end
	body = strings.Repeat("g(", 61) + "f(y)" + strings.Repeat(")", 61)
	p = prog(t, counter+"fun g (x : n) : n = x fun f (x : n) : n = match x with S(y) -> "+body+" | _ -> x end queue 1 state n cap 0 = f(for 3 with x = Z do for 1000 with y = x do S(y))")
	if got := initOf(p).ask(api.MaxFuel); !reflect.DeepEqual(got, failed(api.ErrFuel)) {
		t.Errorf("%s was told", short(got))
	}
	p = prog(t, counter+"queue 1 state n cap 0 = for 62 with x = Z do for 1000 with y = x do S(y)")
	got, c, err = eval.Init(p, api.MaxFuel)
	if want := (api.Cost{Words: 3 * 62000, Steps: 12 + 62*(6+12) + 62000*16, Peak: 7}); depthOf(got) != 62000 || c != want || err != api.OK {
		t.Errorf("%d deep was told, at %+v, want %+v, %d", depthOf(got), c, want, err)
	}
}

// leftmost is the first of all parts of a value that has no Kids, and how deep it is.
func leftmost(v api.Value) (api.Value, int) {
	depth := 1
	for len(v.Kids) > 0 {
		v = v.Kids[0]
		depth++
	}
	return v, depth
}

// 0.1: a value whose equal parts are far more than there is room for comes to an end; it shares nothing with what was given
func TestDoubling(t *testing.T) {
	p := prog(t, house+`type both2 = Of of note | Two of both2 * both2
		fun f (n : note) : both2 = for 1000 with x = Of(n) do Two(x, x)
		fun g (n : note) : int = match f(n) with Two(Two(a, _), b) -> match (a, b) with (Two(_, c), Two(d, _)) -> let e = (c, d) in match e with (Two(_, _), x) -> 7 | _ -> 8 end | _ -> 9 end | _ -> 10 end
		queue 1 state both2 cap 0 = for 1000 with x = Of(Note("abc", Blank)) do Two(x, x)
		on h (n : note cap 9) = (for 1000 with x = state do Two(x, x), Done)`)
	n := val(t, `Note("abc", Blank)`)
	want := api.Cost{Words: 3 + 4000, Steps: 8 + 6000 + 6 + 4 + 1000*16, Peak: 7}
	got, c, err := eval.Call(p, "f", []api.Value{n}, api.MaxFuel)
	if want.Peak++; c != want || err != api.OK {
		t.Errorf("%+v, %d was told, want %+v", c, err, want)
	}
	n.Kids[0].Bytes[0] = 'X'
	if end, depth := leftmost(got); string(end.Bytes) != "abc" || depth != 1003 {
		t.Errorf("%v, %d deep, was told", end, depth)
	}
	got, c, err = eval.Init(p, api.MaxFuel)
	if want = (api.Cost{Words: 3 + 4 + 3 + 4000, Steps: 8 + 6000 + 6 + 8 + 4 + 4 + 1000*16, Peak: 7}); c != want || err != api.OK {
		t.Errorf("%+v, %d was told, want %+v", c, err, want)
	}
	p.Init.Kids[0].Kids[0].Kids[0].Bytes[0] = 'X'
	if end, depth := leftmost(got); string(end.Bytes) != "abc" || depth != 1003 {
		t.Errorf("%v, %d deep, was told", end, depth)
	}
	if v, _, err := eval.Call(p, "g", []api.Value{n}, api.MaxFuel); !reflect.DeepEqual(v, numVal(7)) || err != api.OK {
		t.Errorf("%v, %d was told", v, err)
	}
	state := conVal("Of", val(t, `Note("abc", Blank)`))
	got, _, err = eval.Hand(p, "h", state, n, api.MaxFuel)
	state.Kids[0].Kids[0].Bytes[0] = 'X'
	if end, depth := leftmost(got); string(end.Bytes) != "abc" || depth != 1004 || err != api.OK {
		t.Errorf("%v, %d deep, %d was told", end, depth, err)
	}
	// what there is room for shares nothing
	p = prog(t, house+"queue 1 state tree cap 0 = for 12 with x = Leaf do Node(x, 1, x)")
	got, _, err = eval.Init(p, api.MaxFuel)
	apart(t, got)
	if size := value.Size(got, 1<<20); size != 5*(1<<12-1) || err != api.OK {
		t.Errorf("%d words were told, %d", size, err)
	}
}

// tall is a program with types of which each has values just 63 deeper than the one ahead, functions that make them, and a value that is deeper than all that arms care for. (A text that is not too long has no such types.)
func tall() (p api.Prog, made api.Expr) {
	p = api.Prog{Queue: 1, Datas: []api.Data{{Name: "t0", Cons: []api.Con{{Name: "T0"}}}}}
	made = conOf("T0")
	for i := range 16 {
		ahead, name, con, f := "t"+strconv.Itoa(i), "t"+strconv.Itoa(i+1), "T"+strconv.Itoa(i+1), "f"+strconv.Itoa(i+1)
		of := nested(62, data(ahead), func(t api.Type) api.Type { return tuple(number(), t) })
		body := conOf(con, nested(62, variable("x"), func(e api.Expr) api.Expr { return row(num(1), e) }))
		p.Datas = append(p.Datas, api.Data{Name: name, Cons: []api.Con{{Name: con, Fields: []api.Type{of}}}})
		p.Funs = append(p.Funs, api.Fun{Name: f, Params: []api.Param{param("x", data(ahead))}, Result: data(name), Body: body})
		made = call(f, made)
	}
	p.Datas = append(p.Datas, api.Data{Name: "some", Cons: []api.Con{{Name: "B"}, {Name: "A", Fields: []api.Type{data("t16")}}}})
	return p, conOf("A", made)
}

// 0.1: a value that is too deep for arms to care for ends in no panic
func TestNoArm(t *testing.T) {
	p, made := tall()
	p.Funs = append(p.Funs, api.Fun{Name: "g", Params: []api.Param{param("x", data("some"))}, Body: match(variable("x"), arm(conPat("B"), num(1)))})
	p.Init = call("g", made)
	p.Hands = []api.Hand{
		{Name: "h", Param: param("n", number()), Body: row(p.Init, conOf("Done"))},
		{Name: "i", Param: param("n", number()), Body: row(call("g", conOf("B")), conOf("Done"))},
	}
	if f := halt.Check(p); f != (api.Fault{}) {
		t.Fatalf("it has the fault %v", f)
	}
	for _, got := range []answer{initOf(p).ask(api.MaxFuel), handOf(p, p.Hands[0], numVal(1), numVal(1)).ask(api.MaxFuel)} {
		if !reflect.DeepEqual(got, failed(api.ErrCover)) {
			t.Errorf("%s was told", short(got))
		}
	}
	if got := initOf(p).ask(100); !reflect.DeepEqual(got, failed(api.ErrFuel)) {
		t.Errorf("with less fuel %s was told", short(got))
	}
	if v, _, err := eval.Call(p, "g", []api.Value{conVal("B")}, api.MaxFuel); !reflect.DeepEqual(v, numVal(1)) || err != api.OK {
		t.Errorf("%v, %d was told", v, err)
	}
	if v, _, err := eval.Hand(p, "i", numVal(1), numVal(1), api.MaxFuel); !reflect.DeepEqual(v, rowVal(numVal(1), conVal("Done"))) || err != api.OK {
		t.Errorf("%v, %d was told", v, err)
	}
}

// 0.1, P12.2: programs as great as may be: 64 deep, with matches of as many patterns, and names, as there may be
func TestGreatProgram(t *testing.T) {
	// 63 patterns, as 21 arms have 3 each
	var arms []api.Arm
	for i := range 20 {
		arms = append(arms, arm(rowPat(numPat(int64(i)), anyPat()), num(1)))
	}
	names := rowPat(varPat("a"), varPat("b"))
	body := op(api.OpAdd, variable("first"), variable("a"))
	for range 60 {
		body = match(row(num(100), num(7)), append(arms[:20:20], arm(names, body))...)
	}
	p := api.Prog{Queue: 1, Init: let("first", num(5), body)}
	if f := halt.Check(p); f != (api.Fault{}) {
		t.Fatalf("it has the fault %v", f)
	}
	got, want := initOf(p).ask(api.MaxFuel), initOf(p).want(api.MaxFuel)
	if !reflect.DeepEqual(got, want) || !reflect.DeepEqual(got.v, numVal(105)) {
		t.Errorf("%s was told, want %s", short(got), short(want))
	}
	if want := (api.Cost{Steps: 8 + 4 + 60*(6+8*(21+63)+16) + 16, Words: 60 * 4, Peak: 1 + 59*64 + 2*63 + 3}); got.cost != want {
		t.Errorf("%+v was told, want %+v", got.cost, want)
	}
}

// 0.1: arguments as great as may be
func TestGreatArguments(t *testing.T) {
	deepest := nested(many-9, num(1), func(e api.Expr) api.Expr { return row(e) })
	for _, p := range []api.Prog{{Queue: 1, Init: deepest}, {Queue: 1, Funs: make([]api.Fun, many)}, {Queue: 1, Hands: make([]api.Hand, many)}, {Queue: 1, Init: row(make([]api.Expr, many)...)}} {
		for _, got := range []answer{initOf(p).ask(api.MaxFuel), answered(eval.Call(p, "", nil, api.MaxFuel)), answered(eval.Hand(p, "", api.Value{}, api.Value{}, api.MaxFuel))} {
			if !reflect.DeepEqual(got, failed(api.ErrForm)) {
				t.Errorf("of what is too great %s was told", short(got))
			}
		}
	}
	p := prog(t, house+"fun f (r : rose) : (rose * rose) = (r, r) queue 1 state rose cap 9 = Rose(1, Bare) on h (r : rose cap 9) = (r, Done)")
	if got := answered(eval.Call(p, strings.Repeat("f", many), nil, api.MaxFuel)); got.err != api.ErrNone {
		t.Errorf("of a long name %s was told", short(got))
	}
	if got := answered(eval.Call(p, "f", make([]api.Value, many), api.MaxFuel)); got.err != api.ErrCount {
		t.Errorf("of many values %s was told", short(got))
	}
	// 2^16 parts: 900 deep at most, and wide
	wide := conVal("Rose", numVal(1), conVal("Bare"))
	for parts := 3; parts < many-8; {
		row := nested(400, conVal("Bare"), func(v api.Value) api.Value { return conVal("More", conVal("Rose", numVal(1), conVal("Bare")), v) })
		wide = conVal("Rose", numVal(2), conVal("More", wide, row))
		parts += 4 + 4*400
	}
	got, c, err := eval.Call(p, "f", []api.Value{wide}, api.MaxFuel)
	if c != (api.Cost{Words: 4, Steps: 16, Peak: 6}) || err != api.OK {
		t.Errorf("%+v, %d was told", c, err)
	}
	if !value.Same(got, rowVal(wide, wide)) {
		t.Error("of a great value another one was told")
	}
	apart(t, got, wide)
	got, _, err = eval.Hand(p, "h", wide, wide, api.MaxFuel)
	if !value.Same(got, rowVal(wide, conVal("Done"))) || err != api.OK {
		t.Errorf("of great values another one was told, %d", err)
	}
}
