package word_test

import (
	"math"
	"math/big"
	"testing"

	"handloom/api"
	"handloom/word"
)

const (
	least    = int64(-1 << 62)
	greatest = int64(1<<62 - 1)
)

// edges are the numbers around which a wrong sign, a lost bit or a missing wrap shows.
func edges() []int64 {
	near := []int64{
		math.MinInt64, least, -1 << 61, -1 << 32, -1 << 31, -10, 0, 10,
		1 << 31, 1 << 32, 3037000500, 1 << 61, 1 << 62, math.MaxInt64,
	}
	var l []int64
	for _, n := range near {
		for d := int64(-2); d <= 2; d++ {
			l = append(l, n+d) // the outermost ones go round: any number will do
		}
	}
	return append(l, -7, -5, -3, 3, 5, 7)
}

// scattered are numbers of all sizes, the same in every run.
func scattered(count int) []int64 {
	l := make([]int64, count)
	x := uint64(88172645463325252)
	for i := range l {
		x ^= x << 13
		x ^= x >> 7
		x ^= x << 17
		l[i] = int64(x) >> (x % 61)
	}
	return l
}

func numbers() []int64 { return append(edges(), scattered(60)...) }

// stands is the number that n stands for, by the definition: shifted by 2^63 until it lies in the range.
func stands(n *big.Int) *big.Int {
	ring := new(big.Int).Lsh(big.NewInt(1), 63)
	m := new(big.Int).Mod(n, ring)
	if m.Cmp(big.NewInt(greatest)) > 0 {
		m.Sub(m, ring)
	}
	return m
}

func standsFor(n int64) *big.Int { return stands(big.NewInt(n)) }

// reckon is what the chapter says of an operator, in numbers without bounds.
func reckon(op int, a, b int64) int64 {
	x, y, z := standsFor(a), standsFor(b), new(big.Int)
	switch op {
	case api.OpAdd:
		z.Add(x, y)
	case api.OpSub:
		z.Sub(x, y)
	case api.OpMul:
		z.Mul(x, y)
	case api.OpDiv:
		if y.Sign() != 0 {
			z.Quo(x, y)
		}
	case api.OpMod:
		z.Set(x)
		if y.Sign() != 0 {
			z.Sub(x, new(big.Int).Mul(y, new(big.Int).Quo(x, y)))
		}
	}
	return stands(z).Int64()
}

// compare is what the chapter says of a comparison.
func compare(op int, a, b int64) bool {
	c := standsFor(a).Cmp(standsFor(b))
	return op == api.OpLt && c < 0 || op == api.OpLe && c <= 0 || op == api.OpEq && c == 0
}

// allOps are the operators, and numbers that are none.
func allOps() []int {
	l := []int{math.MinInt, math.MinInt + 1, 255, 256, 1 << 32, math.MaxInt}
	for op := -3; op <= api.NumOps+3; op++ {
		l = append(l, op)
	}
	return l
}

// P1.1
func TestWrapByHand(t *testing.T) {
	rows := []struct{ n, want int64 }{
		{0, 0}, {1, 1}, {-1, -1}, {12345, 12345},
		{greatest, greatest}, {least, least},
		{1 << 62, least}, {1<<62 + 1, least + 1},
		{least - 1, greatest}, {least - 2, greatest - 1},
		{math.MaxInt64, -1}, {math.MinInt64, 0}, {math.MinInt64 + 1, 1},
	}
	for _, r := range rows {
		if got := word.Wrap(r.n); got != r.want {
			t.Errorf("Wrap(%d) = %d, want %d", r.n, got, r.want)
		}
	}
}

// P1.1
func TestWrapIsTheNumberThatStands(t *testing.T) {
	for _, n := range numbers() {
		if got, want := word.Wrap(n), standsFor(n).Int64(); got != want {
			t.Errorf("Wrap(%d) = %d, want %d", n, got, want)
		}
		if got := word.Wrap(word.Wrap(n)); got != word.Wrap(n) {
			t.Errorf("Wrap of Wrap(%d) = %d, want %d", n, got, word.Wrap(n))
		}
	}
}

// P1.1
func TestDoByHand(t *testing.T) {
	rows := []struct {
		op         int
		a, b, want int64
	}{
		{api.OpAdd, 2, 3, 5}, {api.OpAdd, greatest, 1, least}, {api.OpAdd, least, least, 0},
		{api.OpSub, 2, 3, -1}, {api.OpSub, least, 1, greatest}, {api.OpSub, 0, least, least},
		{api.OpMul, -4, 6, -24}, {api.OpMul, 1 << 31, 1 << 31, least}, {api.OpMul, 1 << 32, 1 << 31, 0},
		{api.OpMul, least, -1, least}, {api.OpMul, greatest, greatest, 1},
		{api.OpDiv, 7, 2, 3}, {api.OpDiv, -7, 2, -3}, {api.OpDiv, 7, -2, -3}, {api.OpDiv, -7, -2, 3},
		{api.OpDiv, 5, 0, 0}, {api.OpDiv, 0, 0, 0}, {api.OpDiv, least, -1, least}, {api.OpDiv, least, 1, least},
		{api.OpMod, 7, 2, 1}, {api.OpMod, -7, 2, -1}, {api.OpMod, 7, -2, 1}, {api.OpMod, -7, -2, -1},
		{api.OpMod, 5, 0, 5}, {api.OpMod, 0, 0, 0}, {api.OpMod, least, -1, 0}, {api.OpMod, least, 0, least},
		// arguments that stand for other numbers: -2^63 for 0, 2^62 for -2^62, 2^63 - 1 for -1
		{api.OpDiv, 5, math.MinInt64, 0}, {api.OpMod, 5, math.MinInt64, 5}, {api.OpMod, 1 << 62, 0, least},
		{api.OpDiv, 1 << 62, 2, least / 2}, {api.OpDiv, 10, math.MaxInt64, -10}, {api.OpMod, math.MaxInt64, 10, -1},
		{api.OpAdd, math.MaxInt64, math.MaxInt64, -2}, {api.OpMul, math.MinInt64, 9, 0},
		// no operators of two numbers that tell a number
		{api.OpLt, 1, 2, 0}, {api.OpLe, 1, 2, 0}, {api.OpEq, 2, 2, 0}, {api.OpLen, 1, 2, 0}, {api.OpAt, 1, 2, 0},
		{api.OpCat, 1, 2, 0}, {api.OpCut, 1, 2, 0}, {api.NumOps, 1, 2, 0}, {-1, 1, 2, 0},
	}
	for _, r := range rows {
		if got := word.Do(r.op, r.a, r.b); got != r.want {
			t.Errorf("Do(%d, %d, %d) = %d, want %d", r.op, r.a, r.b, got, r.want)
		}
	}
}

// P1.1
func TestAsksByHand(t *testing.T) {
	rows := []struct {
		a, b       int64
		lt, le, eq bool
	}{
		{1, 2, true, true, false}, {2, 1, false, false, false}, {2, 2, false, true, true},
		{-1, 0, true, true, false}, {least, greatest, true, true, false}, {greatest, least, false, false, false},
		{1 << 62, 0, true, true, false}, {1 << 62, least, false, true, true},
		{math.MinInt64, 0, false, true, true}, {math.MaxInt64, -1, false, true, true}, {math.MaxInt64, 0, true, true, false},
		{least - 1, greatest, false, true, true},
	}
	for _, r := range rows {
		lt, le, eq := word.Asks(api.OpLt, r.a, r.b), word.Asks(api.OpLe, r.a, r.b), word.Asks(api.OpEq, r.a, r.b)
		if lt != r.lt || le != r.le || eq != r.eq {
			t.Errorf("Asks of %d and %d: %v %v %v, want %v %v %v", r.a, r.b, lt, le, eq, r.lt, r.le, r.eq)
		}
	}
}

// P1.1, and 0.1: any operator, any numbers
func TestDoAndAsksOfAnything(t *testing.T) {
	l := numbers()
	for _, op := range allOps() {
		for _, a := range l {
			for _, b := range l {
				if got, want := word.Do(op, a, b), reckon(op, a, b); got != want {
					t.Fatalf("Do(%d, %d, %d) = %d, want %d", op, a, b, got, want)
				}
				if got, want := word.Asks(op, a, b), compare(op, a, b); got != want {
					t.Fatalf("Asks(%d, %d, %d) = %v, want %v", op, a, b, got, want)
				}
			}
		}
	}
}

// P1.2
func TestImmAndPtrByHand(t *testing.T) {
	imms := []struct {
		n    int64
		want uint64
	}{
		{0, 1}, {3, 7}, {-1, math.MaxUint64}, {-2, math.MaxUint64 - 2},
		{greatest, 1<<63 - 1}, {least, 1<<63 + 1}, {1 << 62, 1<<63 + 1},
		{math.MaxInt64, math.MaxUint64}, {math.MinInt64, 1},
	}
	for _, r := range imms {
		if got := word.Imm(r.n); got != r.want {
			t.Errorf("Imm(%d) = %d, want %d", r.n, got, r.want)
		}
	}
	ptrs := []struct {
		at   uint32
		want uint64
	}{{0, 0}, {1, 2}, {3, 6}, {1 << 31, 1 << 32}, {math.MaxUint32, 1<<33 - 2}}
	for _, r := range ptrs {
		if got := word.Ptr(r.at); got != r.want {
			t.Errorf("Ptr(%d) = %d, want %d", r.at, got, r.want)
		}
	}
}

// P1.2
func TestNumAndAtByHand(t *testing.T) {
	rows := []struct {
		w     uint64
		num   int64
		isNum bool
		at    uint32
		isAt  bool
	}{
		{0, 0, false, 0, false},
		{1, 0, true, 0, false}, {7, 3, true, 0, false}, {math.MaxUint64, -1, true, 0, false},
		{1<<63 - 1, greatest, true, 0, false}, {1<<63 + 1, least, true, 0, false},
		{1<<33 + 1, 1 << 32, true, 0, false},
		{2, 0, false, 1, true}, {6, 0, false, 3, true}, {1<<33 - 2, 0, false, math.MaxUint32, true},
		{1 << 33, 0, false, 0, false}, {1<<33 + 2, 0, false, 0, false}, {1<<33 + 6, 0, false, 0, false},
		{1 << 63, 0, false, 0, false}, {1<<63 + 2, 0, false, 0, false}, {math.MaxUint64 - 1, 0, false, 0, false},
	}
	for _, r := range rows {
		num, isNum := word.Num(r.w)
		at, isAt := word.At(r.w)
		if num != r.num || isNum != r.isNum {
			t.Errorf("Num(%d) = %d %v, want %d %v", r.w, num, isNum, r.num, r.isNum)
		}
		if at != r.at || isAt != r.isAt {
			t.Errorf("At(%d) = %d %v, want %d %v", r.w, at, isAt, r.at, r.isAt)
		}
	}
}

// P1.3
func TestRing(t *testing.T) {
	add := func(a, b int64) int64 { return word.Do(api.OpAdd, a, b) }
	sub := func(a, b int64) int64 { return word.Do(api.OpSub, a, b) }
	mul := func(a, b int64) int64 { return word.Do(api.OpMul, a, b) }
	l := append(edges(), scattered(30)...)
	for _, a := range l {
		for _, b := range l {
			same(t, "a sum in the other order", add(a, b), add(b, a))
			same(t, "a product in the other order", mul(a, b), mul(b, a))
			same(t, "a difference undoes a sum", sub(add(a, b), b), word.Wrap(a))
			same(t, "a sum undoes a difference", add(sub(a, b), b), word.Wrap(a))
			for _, c := range l {
				same(t, "a sum in other brackets", add(add(a, b), c), add(a, add(b, c)))
				same(t, "a product in other brackets", mul(mul(a, b), c), mul(a, mul(b, c)))
				same(t, "a product of a sum", mul(a, add(b, c)), add(mul(a, b), mul(a, c)))
			}
		}
	}
}

func same(t *testing.T, what string, got, want int64) {
	t.Helper()
	if got != want {
		t.Fatalf("%s: %d, want %d", what, got, want)
	}
}

// P1.4
func TestNumbersThereAndBack(t *testing.T) {
	for _, n := range numbers() {
		w := word.Imm(n)
		if got, ok := word.Num(w); !ok || got != word.Wrap(n) {
			t.Errorf("Num(Imm(%d)) = %d %v, want %d true", n, got, ok, word.Wrap(n))
		}
		if at, ok := word.At(w); ok || at != 0 {
			t.Errorf("At(Imm(%d)) = %d %v, want 0 false", n, at, ok)
		}
	}
}

// P1.4
func TestPlacesThereAndBack(t *testing.T) {
	for _, n := range numbers() {
		at := uint32(n)
		w := word.Ptr(at)
		if got, ok := word.At(w); got != at || ok != (at != 0) {
			t.Errorf("At(Ptr(%d)) = %d %v", at, got, ok)
		}
		if num, ok := word.Num(w); ok || num != 0 {
			t.Errorf("Num(Ptr(%d)) = %d %v, want 0 false", at, num, ok)
		}
	}
}

// P1.2, P1.4: of any word; what is told of it has that word again
func TestAnyWord(t *testing.T) {
	for _, n := range append(numbers(), scattered(2000)...) {
		for shift := range 3 {
			w := uint64(n) >> (15 * shift)
			num, isNum := word.Num(w)
			at, isAt := word.At(w)
			switch {
			case isNum && isAt:
				t.Errorf("%d is both", w)
			case isNum && (word.Imm(num) != w || at != 0 || word.Wrap(num) != num):
				t.Errorf("%d is read as the number %d, beside the place %d", w, num, at)
			case isAt && (word.Ptr(at) != w || at == 0 || num != 0):
				t.Errorf("%d is read as the place %d, beside the number %d", w, at, num)
			case !isNum && !isAt && (num != 0 || at != 0):
				t.Errorf("%d is nothing, but told as %d and %d", w, num, at)
			}
			if isNum != (w%2 == 1) || isAt != (w%2 == 0 && 2 <= w && w < 1<<33) {
				t.Errorf("%d: number %v, place %v", w, isNum, isAt)
			}
		}
	}
}

// P1.4
func TestQuotientAndRestMakeUpTheNumber(t *testing.T) {
	l := numbers()
	for _, a := range l {
		for _, b := range l {
			q, r := word.Do(api.OpDiv, a, b), word.Do(api.OpMod, a, b)
			back := word.Do(api.OpAdd, word.Do(api.OpMul, q, b), r)
			if back != word.Wrap(a) {
				t.Fatalf("%d by %d: quotient %d and rest %d make up %d", a, b, q, r, back)
			}
		}
	}
}
