package show_test

import (
	"slices"
	"strings"
	"testing"

	"handloom/api"
	"handloom/ast"
	"handloom/lex"
	"handloom/parse"
	"handloom/show"
)

// backExpr wants an expression's text to be in one form, and to be read as it.
func backExpr(t *testing.T, e api.Expr) {
	t.Helper()
	src := show.Expr(e)
	if src != wantExpr(e) {
		t.Fatalf("Expr(%s)\n = %q, want\n   %q", short(e), short(src), short(wantExpr(e)))
	}
	if tooLong(src) {
		return
	}
	oneForm(t, src)
	got, fault := parse.Expr(src)
	if fault != (api.Fault{}) || !ast.SameExpr(got, e) || show.Expr(got) != src {
		t.Fatalf("%q is read as another expression than\n%s, or shown as another text: fault %v", short(src), short(e), fault)
	}
}

// backPat wants so of a pattern, which is read within a match.
func backPat(t *testing.T, p api.Pat) {
	t.Helper()
	src := show.Pat(p)
	if src != wantPat(p) {
		t.Fatalf("Pat(%s) = %q, want %q", short(p), src, wantPat(p))
	}
	oneForm(t, src)
	in := match(variable("x"), arm(p, num(1)))
	got, fault := parse.Expr("match x with " + src + " -> 1 end")
	if fault != (api.Fault{}) || !ast.SameExpr(got, in) || show.Pat(got.Arms[0].Pat) != src {
		t.Fatalf("%q is read as another pattern than %s, or shown as another text: fault %v", short(src), short(p), fault)
	}
}

func backType(t *testing.T, ty api.Type) {
	t.Helper()
	src := show.Type(ty)
	if src != wantType(ty) {
		t.Fatalf("Type(%s) = %q, want %q", short(ty), src, wantType(ty))
	}
	oneForm(t, src)
	got, fault := parse.Type(src)
	if fault != (api.Fault{}) || !ast.Same(api.Prog{State: got}, api.Prog{State: ty}) || show.Type(got) != src {
		t.Fatalf("%q is read as another type than %s, or shown as another text: fault %v", src, short(ty), fault)
	}
}

func backProg(t *testing.T, p api.Prog) {
	t.Helper()
	src := show.Prog(p)
	if src != wantProg(p) {
		t.Fatalf("Prog(%s)\n = %q, want\n   %q", short(p), short(src), short(wantProg(p)))
	}
	if tooLong(src) {
		return
	}
	lines := strings.Split(src, "\n")
	for _, line := range lines[:len(lines)-1] {
		oneForm(t, line)
	}
	got, fault := parse.Parse(src)
	if fault != (api.Fault{}) || !ast.Same(got, p) || show.Prog(got) != src {
		t.Fatalf("%q is read as another program than\n%s, or shown as another text: fault %v", short(src), short(p), fault)
	}
}

// tooLong tells whether a text has more bytes, or more tokens, than are read.
func tooLong(src string) bool {
	_, fault := lex.Lex(src)
	return fault.Err == api.ErrLong && len(src) > api.MaxSource || fault.Err == api.ErrMany
}

// oneForm wants a line to be its tokens, shown, with one blank between each two.
func oneForm(t *testing.T, line string) {
	t.Helper()
	tokens, fault := lex.Lex(line)
	if fault != (api.Fault{}) || len(tokens) < 2 {
		t.Fatalf("%q has the fault %v, or no tokens", line, fault)
	}
	var l []string
	for _, token := range tokens[:len(tokens)-1] {
		l = append(l, lex.Show(token))
	}
	if again := strings.Join(l, " "); again != line {
		t.Fatalf("%q is not its tokens, shown: %q", line, again)
	}
}

// needed wants each pair of parentheses in an expression's text, taken away, to leave a text of another expression, or of none.
func needed(t *testing.T, e api.Expr) {
	t.Helper()
	tokens := strings.Split(show.Expr(e), " ")
	var open []int
	for i, token := range tokens {
		switch token {
		case "(":
			open = append(open, i)
		case ")":
			from := open[len(open)-1]
			open = open[:len(open)-1]
			less := strings.Join(slices.Concat(tokens[:from], tokens[from+1:i], tokens[i+1:]), " ")
			if got, fault := parse.Expr(less); fault.Err == api.OK && ast.SameExpr(got, e) {
				t.Fatalf("%q says the same as %q", less, strings.Join(tokens, " "))
			}
		}
	}
}

// P6.1, P6.3: trees made in any way
func TestThereAndBack(t *testing.T) {
	s := sower(88172645463325252)
	for i := range 4000 {
		backType(t, s.aType(1+i%5))
		backPat(t, s.aPat(1+i%5))
		backExpr(t, s.anExpr(1+i%5))
		backExpr(t, s.signed(1+i%7))
	}
	for i := range 800 {
		backProg(t, s.aProg(1+i%5))
	}
}

// P6.1: no parentheses where the form wants none
func TestNoParenthesesMore(t *testing.T) {
	s := sower(2463534242)
	for i := range 1500 {
		needed(t, s.signed(2+i%5))
		needed(t, s.anExpr(1+i%4))
	}
}

// P6.1, P6.3: each place of an expression in each place of another one
func TestEachInEach(t *testing.T) {
	l := wraps()
	for _, outer := range l {
		for _, inner := range l {
			e := outer(inner(variable("a")))
			backExpr(t, e)
			needed(t, e)
			for _, between := range l[14:] {
				backExpr(t, outer(between(inner(num(-1)))))
			}
		}
	}
	for _, outer := range patWraps() {
		for _, inner := range patWraps() {
			backPat(t, outer(inner(varPat("a"))))
			backPat(t, outer(inner(numPat(-1))))
			backPat(t, outer(inner(conPat("A"))))
		}
	}
}

// P6.1, P6.3: as deep as may be
func TestAsDeepAsMayBe(t *testing.T) {
	for _, wrap := range wraps() {
		backExpr(t, nested(api.MaxDepth-1, variable("a"), wrap))
		backExpr(t, nested(api.MaxDepth-1, num(-1), wrap))
	}
	for _, wrap := range patWraps() {
		backPat(t, nested(api.MaxDepth-2, varPat("a"), wrap))
		p := nested(api.MaxDepth-1, varPat("a"), wrap)
		if got := show.Pat(p); got != wantPat(p) || got == "" {
			t.Errorf("Pat(%s) = %q", short(p), got)
		}
	}
	for _, wrap := range typeWraps() {
		ty := nested(api.MaxDepth-1, data("a"), wrap)
		backType(t, ty)
		backProg(t, api.Prog{Queue: 1, State: ty, Init: nested(api.MaxDepth-1, num(-1), wraps()[5])})
	}
}

// long is a program of so many texts of 64 bytes at most, and a text of so many bytes in all.
func long(texts, size int) api.Prog {
	p := api.Prog{Queue: 1}
	var l [][]byte
	for len(l) < texts {
		six := times(6, api.Expr{Kind: api.ExBytes})
		p.Funs = append(p.Funs, api.Fun{Name: "f", Params: []api.Param{{Name: "x"}}, Body: tuple(six...)})
		for i := range six {
			l = append(l, nil)
			p.Funs[len(p.Funs)-1].Body.Kids[i].Bytes = l[len(l)-1]
		}
	}
	left := size - len(wantProg(p))
	for f := range p.Funs {
		for i := range p.Funs[f].Body.Kids {
			n := min(left, api.MaxBytes)
			p.Funs[f].Body.Kids[i].Bytes = []byte(strings.Repeat("a", n))
			left -= n
		}
	}
	return p
}

// P6.2, P6.3: a text just as long as a source may be is read; a longer one is told, too
func TestTheLongestSource(t *testing.T) {
	for _, size := range []int{api.MaxSource - 1, api.MaxSource, api.MaxSource + 1} {
		p := long(234, size)
		src := show.Prog(p)
		if len(src) != size || src != wantProg(p) {
			t.Fatalf("a program's text has %d bytes, want %d, or is another one", len(src), size)
		}
		got, fault := parse.Parse(src)
		if size <= api.MaxSource && (fault != (api.Fault{}) || !ast.Same(got, p)) {
			t.Errorf("%d bytes are read as another program: %v", size, fault)
		}
		if size > api.MaxSource && fault.Err != api.ErrLong {
			t.Errorf("%d bytes are read: %v", size, fault)
		}
	}
}

// crowd is a program of so many tokens, the end not among them.
func crowd(tokens int) api.Prog {
	p := api.Prog{Queue: 1}
	one := api.Fun{Name: "f", Params: []api.Param{{Name: "x"}}, Body: num(0)}
	p.Funs = times(api.MaxFuns, one)
	left := tokens - len(strings.Fields(wantProg(p)))
	for i := range p.Funs {
		// a sign and a number more are two
		n := min(left/2, api.MaxDepth-1)
		p.Funs[i].Body = nested(n, num(0), func(e api.Expr) api.Expr { return op(api.OpAdd, e, num(1)) })
		left -= 2 * n
	}
	// a number below 0 has one more
	p.Init = num(-int64(left))
	return p
}

// P6.2, P6.3: so with tokens
func TestTheMostTokens(t *testing.T) {
	for count := api.MaxTokens - 3; count < api.MaxTokens+2; count++ {
		p := crowd(count)
		backProg(t, p)
		src := show.Prog(p)
		if got := len(strings.Fields(src)); got != count {
			t.Fatalf("a program has %d tokens, want %d", got, count)
		}
		if got, want := tooLong(src), count >= api.MaxTokens; got != want {
			t.Errorf("%d tokens and the end: too many is %v, want %v", count, got, want)
		}
	}
}

// P6.1, P6.2: as many parts as an argument may have
func TestTheMostOfAll(t *testing.T) {
	e := text(strings.Repeat("\xff", 64))
	for range 6 {
		e = tuple(times(6, e)...)
	}
	if got := show.Expr(e); got != wantExpr(e) || len(got) < 46656*258 {
		t.Errorf("a wide expression's text has %d bytes", len(got))
	}
	p := api.Prog{Queue: 1, Init: e}
	if got := show.Prog(p); got != wantProg(p) {
		t.Errorf("a wide program's text has %d bytes", len(got))
	}
	pat, ty := numPat(-most), data(strings.Repeat("é", 24))
	for range 6 {
		pat, ty = tuplePat(times(6, pat)...), tupleType(times(6, ty)...)
	}
	if show.Pat(pat) != wantPat(pat) || show.Type(ty) != wantType(ty) {
		t.Error("a wide pattern, or a wide type, has another text")
	}
}
