package poly_test

import (
	"math"
	"slices"
	"testing"

	"handloom/api"
	"handloom/poly"
)

// P13.1: at most MaxTerms terms, each with a Coef from 1 to MaxCoef and Exps up to MaxExp, whose Exps rise
func TestFit(t *testing.T) {
	for src, want := range map[string]bool{
		"": true, "1": true, "2": true, "1099511627775": true, "1099511627776": true, "0": false, "-1": false, "1099511627777": false, "9223372036854775807": false, "-9223372036854775808": false, "-1099511627776": false,
		"a": true, "l": true, "1099511627776 a^6 b^6 c^6 d^6 e^6 f^6 g^6 h^6 i^6 j^6 k^6 l^6": true, "a^7": false, "l^7": false, "f^255": false, "0 a": false, "1099511627777 l": false,
		"1 + a": true, "a + 1": false, "1 + 1": false, "a + a": false, "2 a + 3 a": false, "a + a^2": true, "a^2 + a": false,
		"l + a": true, "a + l": false, "l^6 + k": true, "k + l^6": false, "b^6 l^6 + a": true, "a + b^6 l^6": false, "a b + a b l": true, "a b l + a b": false, "a b l + a b^2": true, "a b^2 + a b l": false,
		"1 + l + k + j + i + h + g + f + e + d + c + b + a": true, "1 + l + k + i + j + h": false, "1 + l + l + k": false, "1 + b + a + b": false,
		"1 + l + a^7": false, "0 + l + a": false, "1 + 0 l + a": false, "1 + l + 0 a": false, "1 + l^7 + a": false, "5 + 4 l + 3 a": true, "1 + l + 1099511627777 a": false,
	} {
		wants(t, src, poly.Fit(sum(src)), want)
	}
	wants(t, "an empty list", poly.Fit(api.Poly{}), true)
	wants(t, "a zero term", poly.Fit(api.Poly{{}}), false)
	for count, want := range map[int]bool{63: true, 64: true, 65: false, 128: false} {
		wants(t, "many terms", poly.Fit(full(count)), want)
	}
	for k := range api.NumVars {
		wants(t, "the powers up to MaxExp", poly.Fit(powersOf(k, 0, 6)), true)
		wants(t, "one more", poly.Fit(powersOf(k, 0, 7)), false)
	}
}

// P13.1: each number changed alone, each term left out, twice, or elsewhere
func TestFitOfChanges(t *testing.T) {
	s := sower(362436069)
	l := sums("", "1", "l", "3 + 5 l + 7 a", "3 + 5 l + 2 k l^2 + k^2 + 7 b^6 + a b c d e f g h i j k l")
	l = append(l, full(64), full(63), powersOf(0, 0, 6), powersOf(11, 1, 3))
	for range 100 {
		l = append(l, s.aSum(s.aSize()))
	}
	told := map[bool]int{}
	for _, p := range l {
		wants(t, p, poly.Fit(p), true)
		changes(p, func(p api.Poly) {
			want := wantFit(p)
			told[want]++
			if got := poly.Fit(p); got != want {
				t.Fatalf("%s: %t was told", short(p), got)
			}
		})
	}
	if told[true] < 1000 || told[false] < 1000 {
		t.Errorf("%v: too few of a sort", told)
	}
}

// P13.1: all short rows of a few terms, and sums of any form
func TestFitOfRows(t *testing.T) {
	few := sum("1 + 2 + 0 + l + 3 l + l^6 + l^7 + k + k l + a + a l + a^2 + b^6 + 1099511627777 a")
	for _, x := range few {
		for _, y := range few {
			for _, z := range few {
				if p := (api.Poly{x, y, z}); poly.Fit(p) != wantFit(p) || poly.Fit(p[:2]) != wantFit(p[:2]) {
					t.Errorf("%v: %t was told", p, poly.Fit(p))
				}
			}
		}
	}
	s := sower(88675123)
	for range 20000 {
		if p := s.anySum(); poly.Fit(p) != wantFit(p) {
			t.Errorf("%s: %t was told", short(p), poly.Fit(p))
		}
	}
}

// P13.1: a number is one term, or none below 1; ErrBig beyond MaxCoef
func TestNum(t *testing.T) {
	for n, want := range map[int64]answer{
		0: right(nil), -1: right(nil), -5: right(nil), math.MinInt64: right(nil), -api.MaxCoef: right(nil), -api.MaxCoef - 1: right(nil),
		1: right(sum("1")), 2: right(sum("2")), 1000: right(sum("1000")), api.MaxCoef - 1: right(sum("1099511627775")), api.MaxCoef: right(sum("1099511627776")),
		api.MaxCoef + 1: tooGreat(), 1 << 41: tooGreat(), 1 << 62: tooGreat(), math.MaxInt64: tooGreat(),
	} {
		wants(t, n, answered(poly.Num(n)), want)
	}
	s := sower(5783321)
	for range 1000 {
		n := s.anyNumber()
		want := amounts{}
		if n > 0 {
			want = amountsOf(api.Poly{{Coef: n}})
		}
		wants(t, n, answered(poly.Num(n)), want.answer())
	}
}

// P13.1: an unknown is one term, 1 times it; ErrRange, if there is none
func TestVar(t *testing.T) {
	for k, src := range []string{"a", "b", "c", "d", "e", "f", "g", "h", "i", "j", "k", "l"} {
		wants(t, src, answered(poly.Var(k)), right(sum(src)))
	}
	for _, k := range []int{-1, 12, 13, -12, 256, math.MinInt, math.MaxInt, 1 << 32, -1 << 32, 1<<32 + 1} {
		wants(t, k, answered(poly.Var(k)), answer{nil, api.ErrRange})
	}
	if got, _ := poly.Var(api.VarSelf); !slices.Equal(got, sum("l")) {
		t.Errorf("%v was told of the last one", got)
	}
}
