package halt_test

import (
	"strings"
	"testing"

	"handloom/api"
	"handloom/halt"
)

// callsIs holds what Calls tells against the second reading, and is it.
func callsIs(t *testing.T, e api.Expr, name string) (all, way int) {
	t.Helper()
	all, way = halt.Calls(e, name)
	if wantAll, wantWay := wantCalls(e, name); all != wantAll || way != wantWay {
		t.Fatalf("Calls(%s, %q) = %d, %d, want %d, %d", short(e), name, all, way, wantAll, wantWay)
	}
	if way > all {
		t.Fatalf("Calls(%s, %q): %d on one way, %d in all", short(e), name, way, all)
	}
	return all, way
}

// calls wants so many calls of f in an expression.
func calls(t *testing.T, e api.Expr, all, way int) {
	t.Helper()
	if gotAll, gotWay := callsIs(t, e, "f"); gotAll != all || gotWay != way {
		t.Errorf("Calls(%s) = %d, %d, want %d, %d", short(e), gotAll, gotWay, all, way)
	}
}

// P11.1: expressions of each kind, in one another
func TestCallsByHand(t *testing.T) {
	for src, want := range map[string][2]int{
		"1": {0, 0}, "\"f\"": {0, 0}, "f": {0, 0}, "state": {0, 0}, "F": {0, 0}, "g(1)": {0, 0}, "ff(1)": {0, 0}, "F(1)": {0, 0},
		"f(1)": {1, 1}, "f(f(1))": {2, 2}, "f(f(1), f(2), g(f(3)))": {4, 4}, "g(f(1), g(f(2)))": {2, 2},
		"A(f(1), B, f(2))": {2, 2}, "(f(1), 2, (f(3), f(4)))": {3, 3},
		"f(1) + f(2)": {2, 2}, "f(1) < 2": {1, 1}, "len(f(1))": {1, 1}, "at(f(1), f(2))": {2, 2}, "cut(f(1), f(2), f(3))": {3, 3}, "cat(1, f(2)) == f(3)": {2, 2},
		"let f = f(1) in f": {1, 1}, "let x = 1 in f(x)": {1, 1}, "let f = f(1) in f(2) + f(3)": {3, 3},
		"for 3 with x = f(1) do x": {1, 1}, "for 3 with x = 1 do f(x)": {1, 1}, "for 0 with f = f(1) do f(2) * f(3)": {3, 3},
	} {
		calls(t, expr(t, src), want[0], want[1])
		calls(t, expr(t, "("+src+", g("+src+"))"), 2*want[0], 2*want[1])
	}
}

// P11.1: of ExIf, the first Kid and the one of the others that has more
func TestCallsOfIf(t *testing.T) {
	for src, want := range map[string][2]int{
		"if 1 then 2 else 3": {0, 0}, "if f(1) then 2 else 3": {1, 1}, "if 1 then f(2) else 3": {1, 1}, "if 1 then 2 else f(3)": {1, 1},
		"if 1 then f(2) else f(3)": {2, 1}, "if f(1) then f(2) else 3": {2, 2}, "if f(1) then 2 else f(3)": {2, 2}, "if f(1) then f(2) else f(3)": {3, 2},
		"if 1 then f(f(2)) else f(3)": {3, 2}, "if 1 then f(2) else f(3) + f(4)": {3, 2}, "if f(f(f(1))) then f(2) else f(3) + f(4)": {6, 5},
		"if 1 then if f(1) then f(2) else 3 else f(4)": {3, 2}, "if if f(1) then 2 else f(3) then f(4) else (f(5), f(6))": {5, 4},
		"(if 1 then f(2) else f(3)) + (if 1 then f(2) else f(3))": {4, 2}, "(if 1 then f(2) else 3) + (if 1 then 2 else f(3))": {2, 2},
	} {
		calls(t, expr(t, src), want[0], want[1])
	}
}

// P11.1: of ExMatch, the Kid and the arm's Body that has most
func TestCallsOfMatch(t *testing.T) {
	for src, want := range map[string][2]int{
		"match 1 with _ -> 2 end": {0, 0}, "match f(1) with _ -> 2 end": {1, 1}, "match 1 with f -> f(2) end": {1, 1}, "match f(1) with _ -> f(2) end": {2, 2},
		"match 1 with 1 -> f(1) | 2 -> f(2) | _ -> f(3) end": {3, 1}, "match 1 with 1 -> f(1) + f(2) | 2 -> f(3) | _ -> 4 end": {3, 2},
		"match 1 with 1 -> 1 | 2 -> f(2) | _ -> f(f(3)) end": {3, 2}, "match 1 with 1 -> f(1) | 2 -> (f(1), f(2), f(3)) | _ -> f(f(3)) end": {6, 3},
		"match f(1) + f(2) with 1 -> f(1) | 2 -> (f(1), f(2), f(3)) | _ -> f(f(3)) end":                                 {8, 5},
		"match match f(1) with 1 -> f(1) | _ -> f(2) end with 1 -> match 1 with 1 -> f(1) | _ -> f(2) end | _ -> 3 end": {5, 3},
		"match if f(1) then f(1) else f(2) with 1 -> if 1 then f(1) else f(2) | _ -> f(3) end":                          {6, 3},
		"(match 1 with 1 -> f(1) | _ -> 1 end, match 1 with 1 -> 1 | _ -> f(1) end)":                                    {2, 2},
	} {
		calls(t, expr(t, src), want[0], want[1])
	}
}

// P11.1: the name is compared byte by byte, and any name will do
func TestCallsOfNames(t *testing.T) {
	names := []string{"", "f", "F", "ff", "f ", "é", "e\u0301", "\xff", "\xff\xff", "len", "state", strings.Repeat("f", 1<<12)}
	for _, name := range names {
		for _, other := range names {
			want := 0
			if name == other {
				want = 1
			}
			e := row(call(name), variable(other), conOf(other), let(other, num(1), num(2)), match(num(1), arm(varPat(other), num(1))))
			if all, way := callsIs(t, e, other); all != want || way != want {
				t.Errorf("Calls(%s, %q) = %d, %d, want %d", short(e), other, all, way, want)
			}
		}
	}
}

// P11.1: what is not fit, too, by the chapter's words alone: there is a call wherever it stands; on a way is what Kids have, and of a match an arm
func TestCallsOfWhatIsNotFit(t *testing.T) {
	f := call("f")
	two := []api.Arm{arm(anyPat(), f), arm(anyPat(), row(f, f))}
	for _, c := range []struct {
		e        api.Expr
		all, way int
	}{
		{api.Expr{}, 0, 0}, {api.Expr{Kind: -1, Name: "f"}, 0, 0}, {api.Expr{Kind: 11, Name: "f", Kids: []api.Expr{f, f}}, 2, 2},
		{f, 1, 1}, {call("f", f, f, f, f, f, f, f, f), 9, 9}, {api.Expr{Kind: api.ExCall, Name: "f", Num: 9, Bytes: []byte("f")}, 1, 1},
		{choose(), 0, 0}, {choose(f), 1, 1}, {choose(f, f), 2, 2}, {choose(num(1), f, num(1), row(f, f), f), 4, 2}, {choose(f, f, row(f, f, f), f), 6, 4}, {choose(row(f, f), num(1), f, f), 4, 3},
		{api.Expr{Kind: api.ExMatch}, 0, 0}, {api.Expr{Kind: api.ExMatch, Arms: two}, 3, 2}, {match(f), 1, 1}, {match(f, two...), 4, 3},
		{api.Expr{Kind: api.ExMatch, Kids: []api.Expr{f, f}, Arms: two}, 5, 4},
		{api.Expr{Kind: api.ExVar, Name: "f", Kids: []api.Expr{f}}, 1, 1}, {api.Expr{Kids: []api.Expr{f, f}}, 2, 2}, {let("f", f, f), 2, 2}, {api.Expr{Kind: api.ExFor, Kids: []api.Expr{f, f, f}}, 3, 3},
		{api.Expr{Kind: api.ExTuple, Arms: two}, 3, 0}, {api.Expr{Kind: api.ExCall, Name: "f", Kids: []api.Expr{f}, Arms: two}, 5, 2}, {api.Expr{Kind: api.ExIf, Kids: []api.Expr{f, f}, Arms: two}, 5, 2},
	} {
		calls(t, c.e, c.all, c.way)
	}
}

// P11.1, P11.4: expressions of any form; on one way there are never more calls than there are
func TestCallsOfMany(t *testing.T) {
	s := sower(88172645463325252)
	seen, fewer := 0, 0
	for range 20000 {
		all, way := callsIs(t, s.anyExpr(5), pick(&s, "f", "f", "f", "l", ""))
		if all > 1 {
			seen++
		}
		if way < all {
			fewer++
		}
	}
	if seen < 2000 || fewer < 1000 {
		t.Errorf("%d had several calls, %d fewer on one way: too few", seen, fewer)
	}
}

// P11.1: each field of an expression by itself
func TestCallsByOneField(t *testing.T) {
	e := expr(t, "if f(1) < 2 then match f(2) with 1 -> f(3) | A(x, _) -> let f = f(4) in f(5) end else for 2 with x = f(6) do f(7) + f(f(8))")
	calls(t, e, 9, 5)
	changes(e, func(e api.Expr) { callsIs(t, e, "f") })
}
