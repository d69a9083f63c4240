package parse_test

import (
	"strings"
	"testing"

	"handloom/api"
	"handloom/lex"
	"handloom/runes"
)

// starts tells of each token of a text where it begins, in bytes.
func starts(src string) (tokens []api.Token, offs []int) {
	tokens, _ = lex.Lex(src)
	l, _ := runes.Split(src)
	off := map[api.Pos]int{}
	for _, r := range l {
		off[r.At] = r.Off
	}
	for _, t := range tokens {
		if t.Kind == api.TkEnd {
			offs = append(offs, len(src))
		} else {
			offs = append(offs, off[t.At])
		}
	}
	return tokens, offs
}

// first is what must be told of a text up to a byte, behind which nothing may stand: the first part that is wrong as a whole, if all of it stands there.
func (w *writer) first(off int, behind api.Fault) api.Fault {
	if len(w.bad) > 0 && w.bad[0].end <= off {
		return w.bad[0].fault
	}
	return behind
}

// tells wants of a text that a writer wrote the first part that is wrong as a whole, and none else; and so of the text up to some of its tokens, with one that can't stand there.
func (w *writer) tells(t *testing.T, start string, met map[api.Errno]int) {
	t.Helper()
	src := w.out.String()
	tell := func(src string, want api.Fault) {
		t.Helper()
		met[want.Err]++
		fit, none, fault := asks(start, src)
		if fault != want || want.Err == api.OK && !fit || want.Err != api.OK && !none {
			t.Fatalf("%s(%s): fault %d at %v, want %d at %v, or not fit, or something beside it", start, clip(src), fault.Err, fault.At, want.Err, want.At)
		}
	}
	tokens, offs := starts(src)
	if tokens == nil {
		return // it is too long
	}
	tell(src, w.first(len(src), api.Fault{}))
	cut := func(i int) {
		// "of" may stand behind a constructor's name, and nowhere else
		if i == 0 || tokens[i-1].Kind != api.TkUp {
			at := api.Pos{Line: tokens[i].At.Line, Col: tokens[i].At.Col + 1}
			tell(src[:offs[i]]+" of", w.first(offs[i], api.Fault{Err: api.ErrWant, At: at}))
		}
	}
	for range 4 {
		cut(w.s.below(len(tokens)))
	}
	cut(len(tokens) - 1)
	if len(w.bad) == 0 {
		return
	}
	for i, off := range offs {
		if off >= w.bad[0].end {
			// the last token of the part that is wrong, the first one behind it
			cut(i - 1)
			cut(i)
			return
		}
	}
}

// P5.1, P5.2: parts about as deep as may be, some with a wrong number of parts of their own: of what is wrong with parts as a whole the first one of which all is read, ahead of what is wrong behind it
func TestTheFirstPartThatEnds(t *testing.T) {
	s := sower(5783321)
	met := map[string]map[api.Errno]int{"Expr": {}, "Type": {}, "Prog": {}}
	for i := range 1200 {
		w := newWriter(&s)
		depth, right := 60+s.below(14), pick(&s, 3, 20, 1000)
		start := pick(&s, "Expr", "Expr", "Type", "Prog")
		switch start {
		case "Expr":
			w.expr(s.steepExpr(depth, right), 0)
		case "Type":
			w.typ(s.steepType(depth))
		case "Prog":
			w.wide = i%8 == 0
			w.prog(s.steepProg(depth, right))
		}
		w.tells(t, start, met[start])
	}
	for start, m := range met {
		for _, err := range []api.Errno{api.OK, api.ErrWant, api.ErrDeep, api.ErrCount} {
			if m[err] < 30 && !(start == "Type" && err == api.ErrCount) {
				t.Errorf("%s: the fault %d was met %d times alone", start, err, m[err])
			}
		}
	}
}

// P5.1, P5.2: what is wrong with a part as a whole, and a part behind it, or round it
func TestPartsByHand(t *testing.T) {
	rep := strings.Repeat
	fails(t, "len(1,2)e", api.ErrCount, 1)
	fails(t, "len(1,2", api.ErrWant, 8)
	fails(t, "at(len(1,2),e", api.ErrCount, 4)
	fails(t, rep("(", 70)+"1"+rep(",1)", 70)+"e", api.ErrDeep, 7)
	fails(t, rep("len(", 66)+"1"+rep(")", 66), api.ErrDeep, 9)
	fails(t, rep("let a=1 in ", 66)+"1", api.ErrDeep, 23)
	failsType(t, rep("(", 70)+"int"+rep("*int)", 70)+"e", api.ErrDeep, 7)
	failsProg(t, "queue 1 state int cap 0 = len(1,2) queue 2", api.ErrCount, 1, 27)
	failsProg(t, "fun f(x:t):t=(d)state(t*t)cap 2=len(1,2)e", api.ErrCount, 1, 33)
}
