package halt_test

import (
	"strings"
	"testing"

	"handloom/api"
	"handloom/halt"
)

// downIs holds what Down tells against the second reading, and is it.
func downIs(t *testing.T, f api.Fun) (int, bool) {
	t.Helper()
	k, ok := halt.Down(f)
	if want, wantOk := wantDown(f); k != want || ok != wantOk {
		t.Fatalf("Down(%s) = %d, %v, want %d, %v", short(f), k, ok, want, wantOk)
	}
	return k, ok
}

// down wants a function to go down by a parameter.
func down(t *testing.T, f api.Fun, want int) {
	t.Helper()
	if k, ok := downIs(t, f); k != want || !ok {
		t.Errorf("Down(%s) = %d, %v, want %d", short(f), k, ok, want)
	}
}

// notDown wants a function not to go down.
func notDown(t *testing.T, f api.Fun) {
	t.Helper()
	if k, ok := downIs(t, f); k != -1 || ok {
		t.Errorf("Down(%s) = %d, %v, want -1, false", short(f), k, ok)
	}
}

// of is a function of a list l, another one m and a tree t. What stands in a body behind / is the Body of an arm: of Cons(x, r) of a match of l, of Cons(y, q) of one of m, of Node(a, n, b) of one of t.
func of(t *testing.T, body string) api.Fun {
	t.Helper()
	for _, arm := range []string{"l/Cons(x, r)", "m/Cons(y, q)", "t/Node(a, n, b)"} {
		name, pat, _ := strings.Cut(arm, "/")
		body = strings.ReplaceAll(body, name+"/", "match "+name+" with "+pat+" -> ")
	}
	ends := strings.Count(body, "match") - strings.Count(body, "end")
	return funOf(t, "fun f (l : list, m : list, t : tree) : int = "+body+strings.Repeat(" end", ends))
}

// P11.2: the chapter's examples
func TestDownOfExamples(t *testing.T) {
	down(t, funOf(t, "fun f (l : list) : int = match l with Nil -> 0 | Cons(x, r) -> f(r) end"), 0)
	notDown(t, funOf(t, "fun f (l : list) : int = f(l)"))
}

// P11.2: no call of itself, whatever else is called
func TestDownOfNoCall(t *testing.T) {
	for _, body := range []string{"1", "f", "F(1)", "g(f)", "g(l, h(m)) + ff(t)", "let f = l in f", "for 3 with f = g(l) do g(f)", "match l with Cons(f, _) -> g(f) | f -> 2 end"} {
		down(t, of(t, body), -1)
	}
	down(t, api.Fun{}, -1)
	down(t, api.Fun{Name: "f", Params: lists("l")}, -1)
	down(t, api.Fun{Body: call("f", variable("l"))}, -1)
	notDown(t, api.Fun{Body: call("")})
	notDown(t, api.Fun{Name: "f", Body: call("f")})
	notDown(t, api.Fun{Name: "f", Body: call("f", variable("l"))})
}

// P11.2: the parameter by which each call goes down, the least one of several
func TestDownByWhich(t *testing.T) {
	for body, want := range map[string]int{
		"l/f(r, m, t)": 0, "m/f(l, q, t)": 1, "t/f(l, m, a)": 2, "t/f(l, m, b)": 2, "t/f(a, b, a)": 2, "l/f(r, r, r)": 0, "m/f(q, q, q)": 1,
		"l/m/f(r, q, t)": 0, "l/m/f(l, q, t)": 1, "m/l/f(r, m, t)": 0, "l/m/t/f(r, q, a)": 0, "l/m/t/f(x, q, a)": 0, "l/m/t/f(l, q, a)": 1, "l/m/t/f(l, r, b)": 2, "l/m/t/f(1, 2, b)": 2,
		"l/match m with Nil -> f(r, m, t) | Cons(y, q) -> f(r, q, t) end":                                         0,
		"l/match m with Nil -> f(r, q, a) | Cons(y, q) -> f(r, q, t) end":                                         0,
		"l/m/match x with 1 -> f(r, q, t) | 2 -> f(r, m, t) | _ -> f(x, l, t) end":                                0,
		"l/m/match x with 1 -> f(r, q, t) | 2 -> f(l, q, t) | _ -> f(1, q, t) end":                                1,
		"l/m/t/if x < n then f(r, m, b) else if x < y then f(r, q, a) else f(l, q, b)":                            2,
		"match l with Nil -> match m with Nil -> 0 | Cons(_, q) -> f(l, q, t) end | Cons(_, _) -> f(l, l, t) end": -1,
		"l/m/if x < y then f(r, m, t) else f(l, q, t)":                                                            -1,
		"l/m/f(q, r, t)": -1, "l/m/f(m, l, t)": -1, "l/f(m, r, r)": -1, "l/f(l, m, t)": -1, "t/f(a, a, t)": -1, "f(l, m, t)": -1, "l/f(1, 2, 3)": -1, "l/m/t/f(l, m, t)": -1,
	} {
		if want < 0 {
			notDown(t, of(t, body))
			continue
		}
		down(t, of(t, body), want)
	}
}

// P11.2: names that are lesser: those within a PtCon, within a PtTuple, however deep, of the parameter and of what is lesser
func TestDownOfLesser(t *testing.T) {
	for _, body := range []string{
		"match l with Cons(x, r) -> f(r) end", "match l with Cons(r, _) -> f(r) end", "match l with (x, r) -> f(r) end", "match l with (r, _) -> f(r) end",
		"match l with Cons(_, Cons(_, r)) -> f(r) end", "match l with Cons(_, (_, r)) -> f(r) end", "match l with (1, (2, A(B, r))) -> f(r) end",
		"match l with A(r) -> f(r) | B(r) -> f(r) | (_, q) -> f(q) | _ -> 1 end", "match l with A(l) -> f(l) end", "match l with A(l, r) -> f(l) end", "match l with A(l, r) -> f(r) end",
		"match l with A(r) -> match r with A(q) -> f(q) end end", "match l with A(r) -> match r with A(q) -> f(r) end end", "match l with A(r) -> match r with (_, q) -> match q with A(p) -> f(p) end end end",
		"match l with A(r) -> match r with A(r) -> match r with A(r) -> f(r) end end end", "match l with A(l) -> match l with A(l) -> f(l) end end", "match l with A(l) -> match l with A(r) -> f(l) end end",
		"match l with A(r) -> match l with A(q) -> f(r) end end", "match l with A(r) -> match l with A(q) -> f(q) end end", "match l with A(r) -> match r with q -> f(r) end end", "match l with q -> match l with A(r) -> f(r) end end",
		"match l with A(r) -> match 1 with 1 -> f(r) end end", "match l with A(f) -> f(f) end", "match l with A(r) -> f((r)) end", "match (l) with A(r) -> f(r) end",
	} {
		down(t, funOf(t, "fun f (l : list) : int = "+body), 0)
	}
	down(t, funOf(t, "fun f (f : list) : int = match f with Cons(_, f) -> f(f) end"), 0)
	for _, body := range []string{
		"match l with r -> f(r) end", "match l with l -> f(l) end", "match l with _ -> f(l) end", "match l with A(r) -> f(l) end", "match l with A(r) -> match r with q -> f(q) end end", "match l with A(r) -> match q with A(q) -> f(q) end end",
		"match m with A(r) -> f(r) end", "match f with A(r) -> f(r) end", "match (l, l) with (A(r), _) -> f(r) end", "match A(l) with A(A(r)) -> f(r) end", "match g(l) with A(r) -> f(r) end", "match l + l with A(r) -> f(r) end",
		"match if l then l else l with A(r) -> f(r) end", "match let x = l in x with A(r) -> f(r) end", "match match l with q -> q end with A(r) -> f(r) end", "match for 1 with x = l do x with A(r) -> f(r) end",
		"match l with A(r) -> f(A(r)) end", "match l with A(r) -> f(r + 1) end", "match l with A(r) -> f((r, r)) end", "match l with A(r) -> f(g(r)) end", "match l with A(r) -> f(let x = r in x) end", "match l with A(r) -> f(1) end", "match l with A(r) -> f(\"r\") end", "match l with A(r) -> f(R) end",
		"match l with A(r) -> 1 | _ -> f(r) end", "match l with A(r) -> 1 | q -> f(r) end", "match l with A(r) -> 1 | B(q) -> f(r) end", "(match l with A(r) -> 1 end, f(r))", "match l with A(r) -> f(r) | q -> f(q) end", "match l with q -> f(q) | A(r) -> f(r) end",
	} {
		notDown(t, funOf(t, "fun f (l : list) : int = "+body))
	}
}

// P11.2: names that a let, a loop or a pattern gives anew are neither the parameter nor lesser, just where they are given
func TestDownOfNamesGivenAnew(t *testing.T) {
	for _, body := range []string{
		"let l = l in match l with A(r) -> f(r) end", "let l = 1 in match l with A(r) -> f(r) end", "let m = l in match m with A(r) -> f(r) end", "match l with A(r) -> let r = r in f(r) end", "match l with A(r) -> let q = r in f(q) end",
		"match l with A(r) -> let r = r in match r with A(q) -> f(q) end end", "match m with l -> match l with A(r) -> f(r) end end", "match l with l -> match l with A(r) -> f(r) end end", "match l with m -> match m with A(r) -> f(r) end end",
		"match m with A(l) -> match l with A(r) -> f(r) end end", "match l with A(r) -> match m with r -> f(r) end end", "match l with A(r) -> match m with A(r) -> f(r) end end", "match l with A(r) -> match m with A(r) -> match r with A(q) -> f(q) end end end",
		"match l with A(r) -> match r with r -> f(r) end end", "match m with (l, q) -> match q with A(r) -> f(r) end end", "match l with A(r) -> match (r, r) with (r, q) -> f(r) end end", "match l with A(r) -> let r = 1 in let q = 2 in f(r) end",
		"match l with A(r) -> let q = (let r = 1 in f(r)) in 2 end", "let q = (let l = 1 in match l with A(r) -> f(r) end) in 2", "match l with A(r) -> match r with A(q) -> match q with q -> match q with A(p) -> f(p) end end end end",
	} {
		notDown(t, funOf(t, "fun f (l : list) : int = "+body))
	}
	for _, body := range []string{
		"let x = l in match l with A(r) -> f(r) end", "let r = 1 in match l with A(r) -> f(r) end", "let l = match l with A(r) -> f(r) end in l", "match l with A(r) -> let x = r in f(r) end", "match l with A(r) -> let r = f(r) in r end",
		"(let l = 1 in l, match l with A(r) -> f(r) end)", "(match l with A(r) -> f(r) end, let l = 1 in l)", "(for 2 with l = l do l, match l with A(r) -> f(r) end)", "(match m with l -> l end, match l with A(r) -> f(r) end)", "(match m with A(l) -> l end, match l with A(r) -> f(r) end)",
		"match l with A(r) -> (let r = 1 in r) + f(r) end", "match l with A(r) -> (for 2 with r = r do r) + f(r) end", "match l with A(r) -> (match 1 with r -> r end) + f(r) end", "match l with A(r) -> (match 1 with A(r) -> r end, f(r)) end",
		"match l with A(r) -> (let r = 1 in let r = 2 in r) + f(r) end", "match l with A(r) -> (match 1 with A(r, r) -> r end, f(r)) end", "match l with A(r) -> (let q = 1 in let r = q in let q = r in q) + f(r) end",
		"match l with r -> match l with A(r) -> f(r) end end", "match m with A(r) -> match l with A(r) -> f(r) end end", "match m with 1 -> match l with A(r) -> f(r) end | l -> l end", "match m with l -> l | _ -> match l with A(r) -> f(r) end end",
		"match l with A(r) -> match r with r -> 1 | A(q) -> f(q) end end", "match l with A(r) -> match m with r -> r | _ -> f(r) end end", "match l with A(r) -> let r = (let r = 1 in r) + f(r) in r end",
		"let x = (let l = 1 in let l = 2 in l) in match l with A(r) -> f(r) end", "match (let l = 1 in l) with _ -> match l with A(r) -> f(r) end end", "if (let l = 1 in l) then match l with A(r) -> f(r) end else 1",
	} {
		down(t, funOf(t, "fun f (l : list) : int = "+body), 0)
	}
}

// P11.2: in the second Kid of an ExFor no call may stand, however it goes down and however often that is done; in the first one it may
func TestDownOfLoops(t *testing.T) {
	for _, body := range []string{
		"l/for 3 with y = 0 do f(r, m, t)", "l/for 0 with y = 0 do f(r, m, t)", "l/for 1 with y = 0 do 1 + f(r, m, t)", "for 3 with y = 0 do l/f(r, m, t)", "l/for 3 with y = 0 do let z = f(r, m, t) in z",
		"l/for 3 with y = 0 do if 1 then 2 else f(r, m, t)", "l/for 3 with y = 0 do match y with 0 -> 1 | _ -> f(r, m, t)", "l/for 3 with y = 0 do for 3 with z = f(r, m, t) do z", "l/for 3 with y = (for 3 with z = 1 do f(r, m, t)) do y",
		"l/for 3 with y = 0 do g(g(f(r, m, t)))", "l/let y = (for 3 with y = 0 do f(r, m, t)) in y", "l/match (for 3 with y = 0 do f(r, m, t)) with _ -> 1", "l/if x then f(r, m, t) else for 3 with y = 0 do f(r, m, t)",
	} {
		notDown(t, of(t, body))
	}
	for _, body := range []string{
		"l/for 3 with y = f(r, m, t) do y", "l/for 3 with y = (for 3 with z = f(r, m, t) do z) do y", "for 3 with y = (l/f(r, m, t) end) do y", "l/for 3 with r = f(r, m, t) do g(r)", "l/(for 3 with y = 0 do y) + f(r, m, t)", "l/for 3 with f = f(r, m, t) do f",
		"l/let y = (for 3 with y = 0 do y) in f(r, m, t)",
	} {
		down(t, of(t, body), 0)
	}
}

// P11.2: two calls on one way, and one on each of several ways
func TestDownOfWays(t *testing.T) {
	for _, body := range []string{
		"t/f(l, m, a) + f(l, m, b)", "t/(f(l, m, a), f(l, m, a))", "t/f(l, f(l, m, a), b)", "t/f(f(l, m, b), m, a)", "t/g(f(l, m, a), g(f(l, m, b)))", "t/A(f(l, m, a), f(l, m, b))", "t/let y = f(l, m, a) in f(l, m, b)", "t/let y = f(l, m, a) in let z = 1 in f(l, m, b)",
		"t/if f(l, m, a) < 1 then f(l, m, b) else 0", "t/if f(l, m, a) < 1 then 0 else f(l, m, b)", "t/(if n then f(l, m, a) else 0) + (if n then 0 else f(l, m, b))", "t/if n then 1 else f(l, m, a) + f(l, m, b)",
		"t/match f(l, m, a) with 0 -> f(l, m, b) | _ -> 1", "t/match f(l, m, a) with 0 -> 1 | _ -> f(l, m, b)", "t/match n with 0 -> 1 | 1 -> (f(l, m, a), f(l, m, b)) | _ -> 2", "t/for 3 with y = f(l, m, a) + f(l, m, b) do y",
		"t/match n with 0 -> f(l, m, a) | _ -> let x = f(l, m, a) in if x then f(l, m, b) else 2", "t/f(l, m, f(l, m, a))",
	} {
		notDown(t, of(t, body))
	}
	for _, body := range []string{
		"t/if n then f(l, m, a) else f(l, m, b)", "t/if f(l, m, a) < 1 then 0 else 1", "t/if n then 1 else if n then f(l, m, a) else f(l, m, b)", "t/match n with 0 -> f(l, m, a) | 1 -> f(l, m, b) | _ -> f(l, m, a)", "t/match f(l, m, a) with 0 -> 1 | _ -> 2",
		"t/(if n then f(l, m, a) else f(l, m, b), 1, g(2))", "t/g(f(l, m, a), 1)", "t/let y = f(l, m, a) in y", "t/let y = 1 in f(l, m, b)", "t/for 3 with y = f(l, m, a) do y + y", "t/1 + (2 * f(l, m, b))", "t/f(g(1, 2), let x = 1 in x, b)",
		"t/match n with 0 -> if n then f(l, m, a) else f(l, m, b) | _ -> match n with 1 -> f(l, m, a) | _ -> f(l, m, b) end",
	} {
		down(t, of(t, body), 2)
	}
}

// P11.2: calls with fewer Kids have no Kid k; with more there are no more parameters
func TestDownOfCounts(t *testing.T) {
	two := func(body string) api.Fun { return funOf(t, "fun f (l : list, m : list) : int = "+body) }
	down(t, two("match l with A(r) -> f(r) end"), 0)
	down(t, two("match l with A(r) -> f(r, m, r, r) end"), 0)
	down(t, two("match m with A(r) -> f(m, r, m) end"), 1)
	down(t, two("match l with A(r) -> match m with A(q) -> if 1 then f(r, q) else f(r) end end"), 0)
	down(t, two("match l with A(r) -> match m with A(q) -> if 1 then f(r) else f(r, q) end end"), 0)
	notDown(t, two("match m with A(r) -> f(r) end"))
	notDown(t, two("match l with A(r) -> f(1, l, r) end"))
	notDown(t, two("match m with A(r) -> f(1, 2, r) end"))
	notDown(t, two("match l with A(r) -> match m with A(q) -> if 1 then f(l, q) else f(r) end end"))
	notDown(t, two("match l with A(r) -> match m with A(q) -> if 1 then f(l) else f(l, q) end end"))
	notDown(t, two("match l with A(r) -> match m with A(q) -> if 1 then f(l, q) else f(q) end end"))
	notDown(t, fun(lists("l"), match(variable("l"), arm(conPat("A", varPat("r")), call("f")))))
	notDown(t, fun(nil, match(variable("l"), arm(conPat("A", varPat("r")), call("f", variable("r"))))))
	var names []string
	for i := range 200 {
		names = append(names, "p"+strings.Repeat("p", i))
	}
	var kids []api.Expr
	for range 200 {
		kids = append(kids, variable("r"))
	}
	for _, k := range []int{0, 1, 6, 63, 64, 199} {
		f := fun(lists(names...), match(variable(names[k]), arm(conPat("A", varPat("r")), call("f", kids...))))
		down(t, f, k)
		f.Body.Arms[0].Body.Kids = kids[:k+1]
		down(t, f, k)
		f.Body.Arms[0].Body.Kids = kids[:k]
		notDown(t, f)
	}
}

// P11.2: what is not fit, too, by the chapter's words alone
func TestDownOfWhatIsNotFit(t *testing.T) {
	l, r, lesser := variable("l"), variable("r"), conPat("A", varPat("r"))
	one := func(e api.Expr) api.Fun { return fun(lists("l"), e) }
	// of two parameters of one name each has it
	twice := func(kids ...api.Expr) api.Fun { return fun(lists("l", "l"), match(l, arm(lesser, call("f", kids...)))) }
	down(t, twice(r, r), 0)
	down(t, twice(num(1), r), 1)
	down(t, twice(r, num(1)), 0)
	notDown(t, twice(l, l))
	// names may be any
	for _, name := range []string{"", "f", "\xff", "state", "A"} {
		down(t, api.Fun{Name: name, Params: lists(name), Body: match(variable(name), arm(conPat(name, varPat(name)), call(name, variable(name))))}, 0)
		notDown(t, api.Fun{Name: name, Params: lists(name), Body: match(variable(name), arm(varPat(name), call(name, variable(name))))})
	}
	// what stands within what has no parts is no part
	within := func(p api.Pat, e api.Expr) api.Fun { return one(match(l, arm(p, e))) }
	for _, kind := range []int{api.PtAny, api.PtVar, api.PtInt, 5, -1} {
		notDown(t, within(api.Pat{Kind: kind, Kids: []api.Pat{varPat("r")}}, call("f", r)))
		down(t, within(api.Pat{Kind: kind, Kids: []api.Pat{lesser}}, call("f", r)), 0)
		down(t, within(api.Pat{Kind: api.PtTuple, Kids: []api.Pat{{Kind: kind, Kids: []api.Pat{varPat("r")}}}}, call("f", r)), 0)
		// it is a name that is given, all the same
		notDown(t, within(api.Pat{Kind: kind, Name: "x", Kids: []api.Pat{varPat("l")}}, match(l, arm(lesser, call("f", r)))))
	}
	down(t, within(api.Pat{Kind: api.PtVar, Name: "r", Kids: []api.Pat{lesser}}, call("f", r)), 0)
	down(t, within(api.Pat{Kind: api.PtAny, Kids: []api.Pat{varPat("r"), lesser}}, call("f", r)), 0)
	down(t, within(api.Pat{Kind: api.PtAny, Kids: []api.Pat{lesser, varPat("r")}}, call("f", r)), 0)
	down(t, within(api.Pat{Kind: api.PtTuple, Name: "l", Kids: []api.Pat{varPat("r")}}, match(l, arm(conPat("r", varPat("q")), call("f", variable("q"))))), 0)
	// just a match's arms make names lesser; a match asks of one Kid
	arms := []api.Arm{arm(lesser, call("f", r))}
	for _, kind := range []int{api.ExInt, api.ExVar, api.ExCon, api.ExTuple, api.ExCall, api.ExLet, api.ExIf, api.ExOp, api.ExFor, 11, -1} {
		notDown(t, one(api.Expr{Kind: kind, Kids: []api.Expr{l}, Arms: arms}))
	}
	for _, kind := range []int{api.ExInt, api.ExBytes, api.ExCon, api.ExCall, api.ExLet, api.ExOp, 11, -1} {
		notDown(t, one(match(api.Expr{Kind: kind, Name: "l"}, arms...)))
		notDown(t, one(match(l, arm(lesser, call("f", api.Expr{Kind: kind, Name: "r"})))))
	}
	notDown(t, one(api.Expr{Kind: api.ExMatch, Arms: arms}))
	notDown(t, one(api.Expr{Kind: api.ExMatch, Kids: []api.Expr{l, l}, Arms: arms}))
	down(t, one(match(api.Expr{Kind: api.ExVar, Name: "l", Num: 9, Bytes: []byte("x"), Kids: []api.Expr{num(1)}}, arms...)), 0)
	// a let gives its name in its second Kid, to others not; so does a loop
	for _, kind := range []int{api.ExLet, api.ExFor, api.ExTuple} {
		with := func(kids ...api.Expr) api.Fun {
			return within(lesser, api.Expr{Kind: kind, Name: "r", Kids: kids})
		}
		down(t, with(call("f", r)), 0)
		down(t, with(num(1), num(1), call("f", r)), 0)
		if kind != api.ExTuple {
			notDown(t, with(num(1), call("f", r)))
		}
	}
	// a call is a call wherever it stands
	notDown(t, within(lesser, row(call("f", r), api.Expr{Arms: []api.Arm{arm(anyPat(), call("f", l))}})))
	down(t, within(lesser, row(call("f", r), api.Expr{Arms: []api.Arm{arm(anyPat(), call("f", r))}})), 0)
	notDown(t, within(lesser, row(call("f", r), api.Expr{Arms: []api.Arm{arm(varPat("r"), call("f", r))}})))
	notDown(t, within(lesser, row(call("f", r), loop(1, "x", num(1), api.Expr{Arms: []api.Arm{arm(anyPat(), call("f", r))}}))))
	down(t, within(lesser, api.Expr{Kind: api.ExCall, Name: "f", Num: 9, Bytes: []byte("x"), Kids: []api.Expr{r}}), 0)
}

// P11.2: functions of any form
func TestDownOfMany(t *testing.T) {
	s := sower(521288629)
	for range 30000 {
		downIs(t, s.anyFun())
	}
}

// P11.2: functions that mostly go down, with scopes, matches and calls in one another
func TestDownOfManyThatGo(t *testing.T) {
	s := sower(88172645463325252)
	once, often := map[int]int{}, map[int]int{}
	for range 60000 {
		f := s.goingFun()
		k, ok := downIs(t, f)
		all, _ := halt.Calls(f.Body, "f")
		switch {
		case all == 0:
		case all == 1:
			once[k]++
		default:
			often[k]++
		}
		if all > 0 && ok != (k >= 0) {
			t.Fatalf("Down(%s) = %d, %v", short(f), k, ok)
		}
	}
	for _, seen := range []map[int]int{once, often} {
		if seen[-1] < 2000 || seen[0] < 800 || seen[1] < 400 || seen[2] < 200 {
			t.Errorf("of functions with one call %v, with more %v went down by these: too few", once, often)
		}
	}
}

// P11.2: each field of some functions by itself
func TestDownByOneField(t *testing.T) {
	for _, src := range []string{
		"fun f (l : list, m : list) : int = match l with Nil -> g(m) | Cons(x, r) -> match m with Cons(y, q) -> if x < y then f(r, q) else let z = f(r, m) in z | q -> for 2 with x = f(r, q) do g(x) end end",
		"fun f (x : int, m : list) : int = match m with (r, Cons(q, l)) -> let x = 1 in (match r with l -> f(l, r) | (q, r) -> f(r, q) end, g(l)) | r -> (for 3 with q = 1 do q) + 1 end",
	} {
		f := funOf(t, src)
		changes(f, func(f api.Fun) { downIs(t, f) })
	}
}
