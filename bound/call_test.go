package bound_test

import (
	"reflect"
	"testing"

	"handloom/api"
	"handloom/bound"
	"handloom/poly"
)

// called is what Call tells.
type called struct {
	b   api.Bound
	err api.Errno
}

func asked(b api.Bound, err api.Errno) called { return called{b, err} }

// wantCall is Put of each, or that one of them is too great.
func wantCall(b api.Bound, sizes []api.Poly) called {
	var made [4]api.Poly
	for i, p := range []api.Poly{b.Size, b.Words, b.Steps, b.Peak} {
		var err api.Errno
		if made[i], err = poly.Put(p, sizes); err != api.OK {
			return called{err: err}
		}
	}
	return called{b: api.Bound{Size: made[0], Words: made[1], Steps: made[2], Peak: made[3]}}
}

// calls wants Call to tell a bound.
func calls(t *testing.T, b api.Bound, sizes []api.Poly, want api.Bound) {
	t.Helper()
	got := asked(bound.Call(b, sizes))
	if got.err != api.OK {
		t.Errorf("Call(%s, %s): %d", shown(b), short(sizes), got.err)
	}
	wants(t, "Call of "+shown(b), got.b, want)
	if again := wantCall(b, sizes); !reflect.DeepEqual(got, again) {
		t.Errorf("Call(%s, %s) = %s, want %s", shown(b), short(sizes), short(got), short(again))
	}
}

func callBig(t *testing.T, b api.Bound, sizes []api.Poly) {
	t.Helper()
	if got := asked(bound.Call(b, sizes)); !reflect.DeepEqual(got, called{err: api.ErrBig}) {
		t.Errorf("Call(%s, %s) = %s", shown(b), short(sizes), short(got))
	}
}

func sums(srcs ...string) []api.Poly {
	var l []api.Poly
	for _, src := range srcs {
		l = append(l, sum(src))
	}
	return l
}

// P14.1: sizes stand for unknowns, in each of the four
func TestCall(t *testing.T) {
	b := bounds("4 + a", "2 + 3 b", "16 + a b", "5 + b + a^2")
	calls(t, b, sums("7", "10"), bounds("11", "32", "86", "64"))
	calls(t, b, sums("", ""), bounds("4", "2", "16", "5"))
	calls(t, b, sums("b", "a"), bounds("4 + b", "2 + 3 a", "16 + a b", "5 + b^2 + a"))
	calls(t, b, sums("1 + g", "l"), bounds("5 + g", "2 + 3 l", "16 + l + g l", "6 + l + 2 g + g^2"))
	calls(t, bounds("", "", "", ""), sums("7", "a"), bounds("", "", "", ""))
	calls(t, api.Bound{}, nil, api.Bound{})
	// each alone
	calls(t, bounds("a", "", "", ""), sums("3"), bounds("3", "", "", ""))
	calls(t, bounds("", "a", "", ""), sums("3"), bounds("", "3", "", ""))
	calls(t, bounds("", "", "a", ""), sums("3"), bounds("", "", "3", ""))
	calls(t, bounds("", "", "", "a"), sums("3"), bounds("", "", "", "3"))
}

// P14.1: fewer sizes than unknowns: the others are themselves; more: those that there are no unknowns for count for nothing
func TestCallOfFewOrMany(t *testing.T) {
	b := bounds("l + f + a", "1 + c + b + a", "a b c d e f g h i j k l", "a")
	calls(t, b, nil, b)
	calls(t, b, []api.Poly{}, b)
	calls(t, b, sums("2"), bounds("2 + l + f", "3 + c + b", "2 b c d e f g h i j k l", "2"))
	calls(t, b, sums("2", "3", "5"), bounds("2 + l + f", "11", "30 d e f g h i j k l", "2"))
	twelve := []string{"1", "2", "1", "1", "1", "2", "1", "1", "1", "1", "1", "3"}
	calls(t, b, sums(twelve...), bounds("6", "5", "12", "1"))
	calls(t, b, sums(append(twelve, "7", "a", "1099511627776")...), bounds("6", "5", "12", "1"))
}

// P14.1: ErrBig, if one alone is too great, and nothing beside it
func TestCallTooGreat(t *testing.T) {
	const most = "1099511627776"
	great := sums(most)
	for _, b := range []api.Bound{bounds("2 a", "", "", ""), bounds("", "2 a", "", ""), bounds("", "", "2 a", ""), bounds("", "", "", "2 a"), bounds("2 a", "2 a", "2 a", "2 a"), bounds("7", "1 + a", "a", "a"), bounds("a", "a", "a", "1 + a")} {
		callBig(t, b, great)
	}
	calls(t, bounds("a", "a", "a", "a"), great, bounds(most, most, most, most))
	callBig(t, bounds("1", "1", "a^2", "1"), sums("b^4"))
	calls(t, bounds("1", "1", "a^2", "1"), sums("b^3"), bounds("1", "1", "b^6", "1"))
	// chapter 13 goes step by step: from the first unknown on
	callBig(t, bounds("", "2 a b", "", ""), sums(most, ""))
	calls(t, bounds("", "2 a b", "", ""), sums("", most), bounds("", "", "", ""))
}

// P14.1: many, held against Put of each
func TestCallOfMany(t *testing.T) {
	s := sower(123456789)
	seen := map[api.Errno]int{}
	for range 20000 {
		b := api.Bound{Size: s.aSum(3, 3), Words: s.aSum(3, 4), Steps: s.aSum(4, 3), Peak: s.aSum(2, 12)}
		sizes := some(s.below(15), func() api.Poly { return s.aSum(2, 12) })
		got, want := asked(bound.Call(b, sizes)), wantCall(b, sizes)
		if !reflect.DeepEqual(got, want) {
			t.Fatalf("Call(%s, %s) = %s, want %s", shown(b), short(sizes), short(got), short(want))
		}
		seen[got.err]++
	}
	if len(seen) != 2 || seen[api.OK] < 3000 || seen[api.ErrBig] < 3000 {
		t.Errorf("%v: too few of a sort", seen)
	}
}

// 0.1, 0.3: of what is not fit any answer may be told, but there is one
func TestCallOfAny(t *testing.T) {
	s := sower(314159265)
	for range 20000 {
		got := asked(bound.Call(api.Bound{Size: s.anySum(), Words: s.anySum(), Steps: s.anySum(), Peak: s.anySum()}, some(s.below(15), s.anySum)))
		if got.err != api.OK && !reflect.DeepEqual(got.b, api.Bound{}) {
			t.Fatalf("%s was told", short(got))
		}
	}
	wide := make(api.Poly, 1<<16)
	for i := range wide {
		wide[i].Coef = int64(i) + 1
		wide[i].Exps[i%api.NumVars] = 255
	}
	sizes := make([]api.Poly, 1<<16)
	for i := range sizes {
		sizes[i] = sum("2")
	}
	all := api.Bound{Size: wide, Words: wide, Steps: wide, Peak: wide}
	for _, b := range []api.Bound{all, bounds("a^6 b^6 c^6", "l", "a", "b")} {
		for _, l := range [][]api.Poly{nil, {wide, wide, wide}, sizes} {
			bound.Call(b, l)
		}
	}
	calls(t, bounds("a", "b", "l", "1 + a b"), sizes, bounds("2", "2", "2", "5"))
}
