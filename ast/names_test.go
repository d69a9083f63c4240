package ast_test

import (
	"reflect"
	"slices"
	"testing"

	"handloom/api"
	"handloom/ast"
)

// counts holds Nodes of an expression against what is counted by reflection.
func counts(t *testing.T, e api.Expr) {
	t.Helper()
	exprs, pats := ast.Nodes(e)
	wantExprs, wantPats := kindsIn[api.Expr](reflect.ValueOf(e)), kindsIn[api.Pat](reflect.ValueOf(e))
	if exprs != wantExprs || pats != wantPats {
		t.Errorf("Nodes(%s) = %d %d, want %d %d", short(e), exprs, pats, wantExprs, wantPats)
	}
}

// leansOn wants an expression to lean on just these names.
func leansOn(t *testing.T, e api.Expr, want ...string) {
	t.Helper()
	if got := ast.Free(e); !slices.Equal(got, want) || len(got) == 0 && got != nil {
		t.Errorf("Free(%s) = %q, want %q", short(e), got, want)
	}
	if reading := wantFree(e); !slices.Equal(reading, want) {
		t.Errorf("by the chapter %s leans on %q, not %q", short(e), reading, want)
	}
}

// P4.3
func TestNodesByHand(t *testing.T) {
	x := variable("x")
	rows := []struct {
		e           api.Expr
		exprs, pats int
	}{
		{num(5), 1, 0}, {api.Expr{}, 1, 0}, {text("abc"), 1, 0}, {con("A"), 1, 0}, {tuple(x, x), 3, 0}, {cond(x, x, x), 4, 0},
		{let("y", x, tuple(x, x, x)), 6, 0}, {loop(9, "y", x, op(api.OpLen, x)), 4, 0},
		{match(x, arm(anyPat(), x)), 3, 1}, {match(x, arm(tuplePat(varPat("a"), numPat(1)), x)), 3, 3},
		{match(tuple(x, x), arm(conPat("A", tuplePat(varPat("a"), conPat("B", anyPat()))), x), arm(anyPat(), match(x, arm(numPat(1), x)))), 8, 7},
		{api.Expr{Kind: 99, Kids: []api.Expr{x, {Kind: -1}}, Arms: []api.Arm{{}, {Pat: api.Pat{Kind: 9, Kids: []api.Pat{{}}}}}}, 5, 3},
	}
	for _, r := range rows {
		if exprs, pats := ast.Nodes(r.e); exprs != r.exprs || pats != r.pats {
			t.Errorf("Nodes(%v) = %d %d, want %d %d", r.e, exprs, pats, r.exprs, r.pats)
		}
		counts(t, r.e)
	}
}

// P4.4
func TestFreeByHand(t *testing.T) {
	x, y, z := variable("x"), variable("y"), variable("z")
	leansOn(t, num(1))
	leansOn(t, api.Expr{})
	leansOn(t, text("x"))
	leansOn(t, x, "x")
	leansOn(t, variable("state"), "state")
	leansOn(t, con("A", con("B"), num(1)))
	leansOn(t, call("f", y, x), "y", "x")
	leansOn(t, tuple(y, x, y, z, x), "y", "x", "z")
	leansOn(t, cond(z, y, x), "z", "y", "x")
	leansOn(t, op(api.OpCut, z, op(api.OpAdd, x, y), z), "z", "x", "y")
	leansOn(t, let("x", y, x), "y")
	leansOn(t, let("x", x, x), "x")
	leansOn(t, let("x", num(1), tuple(x, y)), "y")
	leansOn(t, loop(3, "x", y, x), "y")
	leansOn(t, loop(3, "x", x, x), "x")
	leansOn(t, loop(0, "x", tuple(y, x), tuple(x, z)), "y", "x", "z")
	leansOn(t, match(x, arm(anyPat(), y), arm(varPat("z"), tuple(z, x))), "x", "y")
	leansOn(t, match(x, arm(varPat("x"), x)), "x")
	leansOn(t, match(num(1), arm(tuplePat(varPat("x"), conPat("A", anyPat(), varPat("y"))), tuple(x, y, z)), arm(varPat("z"), tuple(z, y))), "z", "y")
	leansOn(t, match(let("x", num(1), x), arm(numPat(1), x)), "x")
	leansOn(t, match(tuple(z, y), arm(varPat("y"), tuple(y, x))), "z", "y", "x")
}

// P4.4: a name that is given is so in just the part where it is given
func TestFreeInJustThatPart(t *testing.T) {
	x, y := variable("x"), variable("y")
	leansOn(t, tuple(let("x", num(1), x), x), "x")
	leansOn(t, tuple(x, let("x", num(1), x)), "x")
	leansOn(t, tuple(loop(2, "x", num(1), x), y, x), "y", "x")
	leansOn(t, tuple(match(num(1), arm(varPat("x"), x)), y, x), "y", "x")
	leansOn(t, match(num(1), arm(varPat("x"), x), arm(varPat("y"), tuple(y, x))), "x")
	leansOn(t, match(num(1), arm(varPat("y"), y), arm(anyPat(), y)), "y")
	leansOn(t, let("x", let("x", num(1), x), let("y", x, tuple(x, y))))
	leansOn(t, let("x", let("y", num(1), y), tuple(x, y)), "y")
}

// P4.4: a name that is given twice is given till the outer part ends
func TestFreeGivenTwice(t *testing.T) {
	x, y := variable("x"), variable("y")
	twice := tuplePat(varPat("x"), varPat("x"))
	leansOn(t, let("x", num(1), tuple(let("x", x, x), x)))
	leansOn(t, let("x", num(1), tuple(loop(1, "x", x, x), x)))
	leansOn(t, loop(1, "x", num(1), tuple(match(x, arm(varPat("x"), x)), x)))
	leansOn(t, let("x", num(1), tuple(match(x, arm(twice, x)), x)))
	leansOn(t, match(num(1), arm(twice, tuple(match(num(2), arm(twice, x)), x)), arm(anyPat(), x)), "x")
	leansOn(t, tuple(match(num(1), arm(twice, x)), x, y), "x", "y")
	leansOn(t, tuple(let("x", num(1), let("x", num(2), let("x", num(3), x))), x), "x")
}

// P4.4: of trees that are not fit, too, by the chapter's words alone
func TestFreeOfWhatIsNotFit(t *testing.T) {
	x := variable("x")
	leansOn(t, api.Expr{Kind: api.ExLet, Name: "x", Kids: []api.Expr{num(1), x, x}}, "x")
	leansOn(t, api.Expr{Kind: api.ExLet, Name: "x", Kids: []api.Expr{num(1), x, num(1)}})
	leansOn(t, api.Expr{Kind: api.ExFor, Name: "x", Kids: []api.Expr{x}}, "x")
	leansOn(t, api.Expr{Kind: api.ExLet, Name: "x", Kids: []api.Expr{num(1), x}, Arms: []api.Arm{arm(anyPat(), x)}}, "x")
	leansOn(t, api.Expr{Kind: api.ExTuple, Name: "x", Kids: []api.Expr{num(1), x}}, "x")
	leansOn(t, api.Expr{Kind: api.ExVar, Name: "a", Kids: []api.Expr{x}, Arms: []api.Arm{arm(varPat("b"), tuple(variable("b"), variable("c")))}}, "a", "x", "c")
	leansOn(t, api.Expr{Kind: 44, Name: "a", Kids: []api.Expr{x}}, "x")
	leansOn(t, variable(""), "")
	leansOn(t, let("", num(1), tuple(variable(""), variable("\xff"))), "\xff")
	leansOn(t, let("state", num(1), variable("state")))
	leansOn(t, match(num(1), arm(api.Pat{Kind: api.PtVar, Name: "a", Kids: []api.Pat{varPat("x")}}, tuple(x, variable("a")))))
	leansOn(t, match(num(1), arm(api.Pat{Kind: api.PtInt, Name: "x", Kids: []api.Pat{varPat("y")}}, tuple(x, variable("y")))), "x")
}

// P4.3, P4.4: of all sorts of expressions
func TestNodesAndFreeOfAnything(t *testing.T) {
	s := sower(521288629)
	l := append(kinds(), crowded())
	for range 400 {
		l = append(l, s.anExpr(2+s.below(4)))
	}
	for i, e := range l {
		counts(t, e)
		leansOn(t, e, wantFree(e)...)
		if i%10 == 0 && kindsIn[api.Expr](reflect.ValueOf(e)) < 40 {
			changes(e, func(e api.Expr, _ string) {
				counts(t, e)
				leansOn(t, e, wantFree(e)...)
			})
		}
	}
}
