package eval_test

import (
	"math"
	"reflect"
	"strings"
	"testing"

	"handloom/api"
	"handloom/eval"
	"handloom/ty"
	"handloom/value"
)

// doIs holds what Do tells against the second reading, and is it.
func doIs(t *testing.T, op int64, l ...api.Value) (api.Value, bool) {
	t.Helper()
	v, ok := eval.Do(op, l)
	want, wantOk := wantDo(op, l)
	if !reflect.DeepEqual(v, want) || ok != wantOk {
		t.Fatalf("Do(%d, %s) = %s, %v, want %s, %v", op, short(l), short(v), ok, short(want), wantOk)
	}
	return v, ok
}

// does wants an operator of values to tell another one.
func does(t *testing.T, op int64, want api.Value, l ...api.Value) {
	t.Helper()
	if v, ok := doIs(t, op, l...); !reflect.DeepEqual(v, want) || !ok {
		t.Errorf("Do(%d, %s) = %s, %v, want %s", op, short(l), short(v), ok, short(want))
	}
}

// refuses wants values not to be such as an operator wants.
func refuses(t *testing.T, op int64, l ...api.Value) {
	t.Helper()
	if v, ok := doIs(t, op, l...); !reflect.DeepEqual(v, api.Value{}) || ok {
		t.Errorf("Do(%d, %s) = %s, %v, want nothing", op, short(l), short(v), ok)
	}
}

const least, most = -1 << 62, 1<<62 - 1

// P12.1: numbers are reckoned as chapter 1 says
func TestDoNumbers(t *testing.T) {
	for _, c := range []struct{ op, a, b, want int64 }{
		{api.OpAdd, 2, 3, 5}, {api.OpAdd, most, 1, least}, {api.OpAdd, least, -1, most}, {api.OpAdd, most, most, -2},
		{api.OpSub, 2, 3, -1}, {api.OpSub, least, 1, most}, {api.OpSub, 0, least, least},
		{api.OpMul, -4, 3, -12}, {api.OpMul, 1 << 31, 1 << 31, least}, {api.OpMul, 1 << 40, 1 << 40, 0}, {api.OpMul, most, most, 1},
		{api.OpDiv, -7, 2, -3}, {api.OpDiv, 7, -2, -3}, {api.OpDiv, 7, 0, 0}, {api.OpDiv, least, -1, least},
		{api.OpMod, -7, 2, -1}, {api.OpMod, 7, -2, 1}, {api.OpMod, 5, 0, 5}, {api.OpMod, least, -1, 0},
	} {
		does(t, c.op, numVal(c.want), numVal(c.a), numVal(c.b))
	}
	yes, no := conVal("True"), conVal("False")
	for _, c := range []struct {
		a, b         int64
		less, le, eq api.Value
	}{{1, 2, yes, yes, no}, {2, 2, no, yes, yes}, {3, 2, no, no, no}, {least, most, yes, yes, no}, {-1, 0, yes, yes, no}} {
		does(t, api.OpLt, c.less, numVal(c.a), numVal(c.b))
		does(t, api.OpLe, c.le, numVal(c.a), numVal(c.b))
		does(t, api.OpEq, c.eq, numVal(c.a), numVal(c.b))
	}
}

// P12.1: numbers are taken as they are, and wrapped
func TestDoWraps(t *testing.T) {
	does(t, api.OpAdd, numVal(least), numVal(most+1), numVal(0))
	does(t, api.OpSub, numVal(1), numVal(math.MinInt64), numVal(math.MaxInt64))
	does(t, api.OpMul, numVal(-1), numVal(math.MaxInt64), numVal(1))
	does(t, api.OpDiv, numVal(least/2), numVal(1<<62), numVal(2))
	does(t, api.OpMod, numVal(7), numVal(7), numVal(math.MinInt64))
	does(t, api.OpLt, conVal("True"), numVal(math.MaxInt64), numVal(0))
	does(t, api.OpLe, conVal("False"), numVal(1), numVal(1<<62))
	does(t, api.OpEq, conVal("True"), numVal(math.MinInt64), numVal(0))
	does(t, api.OpAt, numVal('b'), textVal("abc"), numVal(math.MinInt64+1))
	does(t, api.OpAt, numVal(-1), textVal("abc"), numVal(math.MaxInt64))
	does(t, api.OpCut, textVal("abc"), textVal("abc"), numVal(math.MaxInt64), numVal(most))
	does(t, api.OpCut, textVal("b"), textVal("abc"), numVal(math.MinInt64+1), numVal(math.MinInt64+1))
	does(t, api.OpCut, api.Value{Kind: api.VaBytes}, textVal("abc"), numVal(0), numVal(1<<62))
}

// P12.1: OpLen and OpAt, within a text and beside it
func TestDoBytes(t *testing.T) {
	full := strings.Repeat("\xff\x00", 32)
	for _, s := range []string{"", "a", "é", "\x00", full} {
		does(t, api.OpLen, numVal(int64(len(s))), textVal(s))
		for at := range s {
			does(t, api.OpAt, numVal(int64(s[at])), textVal(s), numVal(int64(at)))
		}
		for _, at := range []int64{-1, -2, least, int64(len(s)), int64(len(s)) + 1, 64, 256, 1 << 32, most} {
			does(t, api.OpAt, numVal(-1), textVal(s), numVal(at))
		}
	}
	does(t, api.OpAt, numVal(-1), textVal("ab"), numVal(2))
	does(t, api.OpAt, numVal(255), textVal(full), numVal(62))
	does(t, api.OpAt, numVal(0), textVal(full), numVal(63))
}

// P12.1: OpCat, up to MaxBytes and beyond
func TestDoCat(t *testing.T) {
	a, b := strings.Repeat("a", 64), strings.Repeat("b", 64)
	for n := range 65 {
		for _, k := range []int{0, 1, 2, 63, 64} {
			want := textVal((a[:n] + b[:k])[:min(n+k, 64)])
			if n+k == 0 {
				want.Bytes = nil
			}
			does(t, api.OpCat, want, textVal(a[:n]), textVal(b[:k]))
		}
	}
	does(t, api.OpCat, textVal("\x00\xff\n"), textVal("\x00"), textVal("\xff\n"))
}

// P12.1: OpCut from below 0, from within, from the end and from beyond it, of no bytes, of fewer and of more than there are
func TestDoCut(t *testing.T) {
	empty := api.Value{Kind: api.VaBytes}
	abc := textVal("abc")
	for _, c := range []struct {
		at, count int64
		want      string
	}{
		{0, 3, "abc"}, {0, 2, "ab"}, {0, 4, "abc"}, {0, most, "abc"}, {1, 1, "b"}, {1, 2, "bc"}, {1, 9, "bc"}, {1, most, "bc"}, {2, 1, "c"}, {2, most, "c"},
		{-1, 1, "a"}, {-1, 2, "ab"}, {-5, 3, "abc"}, {least, 2, "ab"}, {least, most, "abc"},
		{0, 0, ""}, {0, -1, ""}, {1, 0, ""}, {1, -1, ""}, {-1, 0, ""}, {0, least, ""}, {-3, least, ""}, {3, 1, ""}, {3, 0, ""}, {4, 1, ""}, {4, -1, ""}, {most, most, ""}, {most, least, ""},
	} {
		want := textVal(c.want)
		if c.want == "" {
			want = empty
		}
		does(t, api.OpCut, want, abc, numVal(c.at), numVal(c.count))
	}
	full := strings.Repeat("0123456789abcdef", 4)
	does(t, api.OpCut, textVal(full), textVal(full), numVal(0), numVal(64))
	does(t, api.OpCut, textVal(full[1:]), textVal(full), numVal(1), numVal(64))
	does(t, api.OpCut, textVal(full[63:]), textVal(full), numVal(63), numVal(64))
	does(t, api.OpCut, empty, textVal(full), numVal(64), numVal(64))
	for _, n := range []int64{-1, 0, 1, 64} {
		does(t, api.OpCut, empty, empty, numVal(n), numVal(n))
	}
}

// odd is values of all kinds: right ones, and others.
func odd() []api.Value {
	long := strings.Repeat("x", 64)
	return []api.Value{
		numVal(0), numVal(3), numVal(math.MinInt64), textVal("abc"), {Kind: api.VaBytes}, {Kind: api.VaBytes, Bytes: []byte{}}, {Bytes: []byte{}, Kids: []api.Value{}}, textVal(long),
		textVal(long + "y"), textVal(strings.Repeat(long, 64)), conVal("True"), conVal(""), rowVal(numVal(1), numVal(2)), {Kind: -1}, {Kind: 4}, {Kind: math.MaxInt},
		{Name: "x"}, {Bytes: []byte("a")}, {Kids: []api.Value{{}}}, {Kind: api.VaBytes, Num: 1}, {Kind: api.VaBytes, Name: "x"}, {Kind: api.VaBytes, Kids: []api.Value{{}}},
	}
}

// P12.1: of each operator, too few and too many values, and each kind of them at each place
func TestDoOfAnything(t *testing.T) {
	l := odd()
	taken := map[int64]int{}
	for op := int64(-1); op <= api.NumOps; op++ {
		refuses(t, op)
		refuses(t, op, numVal(1), numVal(2), numVal(3), numVal(4))
		for _, a := range l {
			doIs(t, op, a)
			for _, b := range l {
				if _, ok := doIs(t, op, a, b); ok {
					taken[op]++
				}
				for _, c := range l {
					doIs(t, op, a, b, c)
				}
			}
		}
	}
	for op := int64(api.OpAdd); op <= api.OpEq; op++ {
		if taken[op] != 16 {
			t.Errorf("the operator %d takes %d pairs of these", op, taken[op])
		}
	}
	for _, op := range []int64{math.MinInt64, math.MaxInt64, 1 << 32, 1<<32 + api.OpAdd, -1 << 32, 12, 13} {
		refuses(t, op, numVal(1), numVal(2))
		refuses(t, op, textVal("a"))
	}
}

// P12.1: the edges by hand
func TestDoRefuses(t *testing.T) {
	a, one := textVal("abc"), numVal(1)
	refuses(t, api.OpAdd)
	refuses(t, api.OpAdd, one)
	refuses(t, api.OpAdd, one, one, one)
	refuses(t, api.OpAdd, one, a)
	refuses(t, api.OpAdd, a, one)
	refuses(t, api.OpEq, a, a)
	refuses(t, api.OpEq, conVal("True"), conVal("True"))
	refuses(t, api.OpLt, rowVal(one, one), one)
	refuses(t, api.OpLen, one)
	refuses(t, api.OpLen, a, a)
	refuses(t, api.OpAt, one, a)
	refuses(t, api.OpAt, a)
	refuses(t, api.OpAt, a, a)
	refuses(t, api.OpCat, a, one)
	refuses(t, api.OpCat, a, a, a)
	refuses(t, api.OpCut, a, one)
	refuses(t, api.OpCut, a, one, a)
	refuses(t, api.OpCut, one, one, a)
	for _, op := range []int64{api.OpLen, api.OpAt, api.OpCat, api.OpCut} {
		for _, n := range []int{64, 65} {
			l := []api.Value{textVal(strings.Repeat("a", n)), one, one}[:len(operands[op])]
			if op == api.OpCat {
				l[1] = a
			}
			if _, ok := doIs(t, op, l...); ok != (n == 64) {
				t.Errorf("Do(%d) of a text of %d bytes: %v", op, n, ok)
			}
		}
	}
	refuses(t, api.OpCat, a, textVal(strings.Repeat("a", 65)))
}

// P12.1, P12.4: any values; what is told is of the type that was promised
func TestDoOfMany(t *testing.T) {
	s := sower(521288629)
	all := ty.Datas(api.Prog{})
	results := []api.Type{number(), bytesType(), data("bool")}
	seen := 0
	for range 60000 {
		op := int64(s.below(api.NumOps))
		var l []api.Value
		for _, want := range []byte(operands[op]) {
			switch {
			case s.below(12) == 0:
				l = append(l, s.anyValue(2))
			case want == 'n':
				l = append(l, numVal(pick(&s, int64(s.below(70))-3, int64(s.below(1<<62))<<s.below(30), math.MaxInt64, most, least)))
			default:
				l = append(l, api.Value{Kind: api.VaBytes, Bytes: s.bytes(66)})
			}
		}
		v, ok := doIs(t, op, l...)
		if !ok {
			continue
		}
		seen++
		want := results[0]
		switch {
		case op >= api.OpCat:
			want = results[1]
		case api.OpLt <= op && op <= api.OpEq:
			want = results[2]
		}
		if !value.Of(all, v, want) {
			t.Fatalf("Do(%d, %s) = %s", op, short(l), short(v))
		}
	}
	if seen < 30000 {
		t.Errorf("%d were taken: too few", seen)
	}
}

// P12.1, 0.5: what is told is new memory, nothing that is given is changed, nor what lies behind it; 0.1: many values, and great ones
func TestDoShares(t *testing.T) {
	room := append(make([]byte, 0, 64), "abc"...)
	for _, c := range []struct {
		op int64
		l  []api.Value
	}{
		{api.OpCat, []api.Value{{Kind: api.VaBytes, Bytes: room}, textVal("de")}},
		{api.OpCat, []api.Value{{Kind: api.VaBytes, Bytes: room}, {Kind: api.VaBytes}}},
		{api.OpCut, []api.Value{{Kind: api.VaBytes, Bytes: room}, numVal(math.MinInt64), numVal(9)}},
		{api.OpAdd, []api.Value{numVal(math.MaxInt64), numVal(math.MinInt64)}},
	} {
		was := twin(c.l)
		v, _ := eval.Do(c.op, c.l)
		apart(t, v, c.l)
		if !reflect.DeepEqual(c.l, was) || string(room[:6]) != "abc\x00\x00\x00" {
			t.Errorf("Do(%d) changed %s to %s", c.op, short(was), short(c.l))
		}
	}
	deepest := nested(many, numVal(1), func(v api.Value) api.Value { return rowVal(v) })
	for op := int64(-1); op <= api.NumOps; op++ {
		refuses(t, op, make([]api.Value, many)...)
		refuses(t, op, deepest, deepest)
		refuses(t, op, deepest)
		refuses(t, op, textVal(strings.Repeat("a", many)))
		refuses(t, op, textVal("a"), deepest, numVal(1))
	}
}
