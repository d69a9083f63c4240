package poly_test

import (
	"reflect"
	"strconv"
	"testing"

	"handloom/api"
	"handloom/poly"
)

// P13.3: other sums in the unknowns' places; those that have none stay themselves
func TestPut(t *testing.T) {
	for _, r := range []struct {
		p    string
		l    []string
		want string
	}{
		{"", nil, ""}, {"", []string{"3"}, ""}, {"5", nil, "5"}, {"5", []string{"3", "4"}, "5"}, {"2 + 3 l + a", nil, "2 + 3 l + a"}, {"1099511627776 a^6 l^6", nil, "1099511627776 a^6 l^6"},
		{"a", []string{"3"}, "3"}, {"a", []string{""}, ""}, {"1 + a", []string{""}, "1"}, {"2 a", []string{"3"}, "6"}, {"a^2", []string{"3"}, "9"}, {"a^6", []string{"2"}, "64"}, {"2 a^2", []string{"1 + a"}, "2 + 4 a + 2 a^2"},
		{"a b", []string{"1 + a", "2 + b"}, "2 + b + 2 a + a b"}, {"2 b + 3 a", []string{"b", "a"}, "3 b + 2 a"}, {"b", []string{"7"}, "b"}, {"2 b + 3 a", []string{"7"}, "21 + 2 b"}, {"2 b + 3 a", []string{"", "a"}, "2 a"},
		{"1 + l + a", []string{"l"}, "1 + 2 l"}, {"a + a^2", []string{"a^3"}, "a^3 + a^6"}, {"l^2", []string{"1", "1", "1"}, "l^2"}, {"b^2 + a^2", []string{"2 b", "3 b"}, "13 b^2"}, {"a b c", []string{"c", "a", "b"}, "a b c"},
		{"2 a + 5 a^2", []string{"1 + l"}, "7 + 12 l + 5 l^2"}, {"3 a^2 b", []string{"2 + c", "l"}, "12 l + 12 c l + 3 c^2 l"},
		{"a^2", []string{"a^3"}, "a^6"}, {"a^2", []string{"a^4"}, "big"}, {"a^3", []string{"a^3"}, "big"}, {"a l", []string{"l^5"}, "l^6"}, {"a l", []string{"l^6"}, "big"}, {"a l", []string{"1 + l^6"}, "big"},
		{"a^2", []string{"1048576"}, "1099511627776"}, {"a^2", []string{"1048577"}, "big"}, {"1099511627776 a", []string{"1"}, "1099511627776"}, {"1099511627776 a", []string{"2"}, "big"}, {"1099511627776 a", []string{"l"}, "1099511627776 l"},
		{"1 + a", []string{"1099511627776"}, "big"}, {"1 + a", []string{"1099511627775"}, "1099511627776"}, {"b + a", []string{"1099511627776", "1"}, "big"}, {"b + a", []string{"1099511627776 c", "1"}, "1 + 1099511627776 c"},
	} {
		wants(t, r, answered(poly.Put(sum(r.p), sums(r.l...))), row{want: r.want}.answer())
	}
}

// P13.3: ErrBig, as soon as a step tells it: also where a 0 would follow; a 0 that stands ahead is in time
func TestPutStepByStep(t *testing.T) {
	big, six := "1099511627776", "c^6"
	for _, r := range []struct {
		p    string
		l    []string
		want string
	}{
		{"2 a b", []string{big, ""}, "big"}, {"2 a b", []string{"", big}, ""}, {"a^2 b", []string{big, ""}, "big"}, {"a^2 b", []string{"", big}, ""}, {"a b^2", []string{"", big}, ""}, {"a b^2", []string{big, ""}, ""},
		{"a b c", []string{six, six, ""}, "big"}, {"a b c", []string{six, "", six}, ""}, {"a b c", []string{"", six, six}, ""}, {"a c", []string{six}, "big"}, {"a c", []string{"", six}, ""},
		{"a^2 l", []string{six, "", "", "", "", "", "", "", "", "", "", ""}, "big"}, {"2 a l", []string{"", "", "", "", "", "", "", "", "", "", "", big}, ""},
		{"b^2 + a", []string{"1", six}, "big"}, {"b + a^2", []string{six, "1"}, "big"}, {"c b^2 + a", []string{"", "1048577", ""}, "big"},
		{"a b", []string{"1 + c + c^2 + c^3 + c^4 + c^5 + c^6", "1 + c"}, "big"},
	} {
		wants(t, r, answered(poly.Put(sum(r.p), sums(r.l...))), row{want: r.want}.answer())
	}
	wants(t, "too many terms ahead of a 0", answered(poly.Put(sum("a b c"), []api.Poly{full(64), sum("1 + a"), nil})), tooGreat())
	wants(t, "a 0 ahead of too many terms", answered(poly.Put(sum("a b c"), []api.Poly{nil, full(64), sum("1 + a")})), right(nil))
	wants(t, "just as many terms", answered(poly.Put(sum("a b"), []api.Poly{full(64), sum("a")})), wantMul(full(64), sum("a")))
	wants(t, "sums of just as many terms", answered(poly.Put(sum("b + a"), []api.Poly{full(32), full(64)[32:]})), right(full(64)))
	wants(t, "sums of too many terms", answered(poly.Put(sum("b + a"), []api.Poly{full(32), full(65)[32:]})), tooGreat())
}

// P13.3: of more sums than there are unknowns the first ones count, of fewer the others are themselves
func TestPutOfManyOrFew(t *testing.T) {
	p := sum("l + k + j + i + h + g + f + e + d + c + b + a")
	var l []api.Poly
	for k := range 20 {
		l = append(l, sum(strconv.Itoa(1<<k)))
	}
	for count := range 21 {
		want := amountsOf(p[:max(api.NumVars-count, 0)])
		for _, q := range l[:min(count, api.NumVars)] {
			want.add(powers{}, exactAt(q, nil))
		}
		wants(t, count, answered(poly.Put(p, l[:count])), want.answer())
	}
	wants(t, "none", answered(poly.Put(p, []api.Poly{})), right(p))
	for k := range api.NumVars {
		l = make([]api.Poly, api.NumVars+3)
		l[k] = sum("2 + a")
		wants(t, k, answered(poly.Put(p, l)), right(sum("2 + a")))
		wants(t, k, answered(poly.Put(powersOf(k, 1, 2), l)), right(sum("6 + 5 a + a^2")))
	}
}

// P13.3: many, held against the second reading
func TestPutOfMany(t *testing.T) {
	s := sower(123456789)
	told := map[api.Errno]int{}
	for range 20000 {
		p := s.aSum(pick(&s, size{3, 2, 2, 4}, size{6, 3, 3, 8}, size{4, 12, 2, 20}, size{20, 3, 3, 12}))
		l := some(pick(&s, s.below(5), 12, s.below(16)), func() api.Poly {
			return s.aSum(pick(&s, size{2, 2, 1, 8}, size{2, 12, 1, 12}, size{3, 3, 2, 4}, size{1, 1, 6, 30}, size{0, 1, 1, 1}, size{12, 4, 3, 10}))
		})
		got, want := answered(poly.Put(p, l)), wantPut(p, l)
		if !reflect.DeepEqual(got, want) {
			t.Fatalf("Put of %s, %s: %s was told, want %s", short(p), short(l), short(got), short(want))
		}
		told[got.err]++
	}
	if len(told) != 2 || told[api.OK] < 2000 || told[api.ErrBig] < 2000 {
		t.Errorf("%v: too few of a sort", told)
	}
}
