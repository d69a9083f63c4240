package value_test

import (
	"reflect"
	"strings"
	"testing"

	"handloom/api"
	"handloom/value"
)

// reads wants a text to be a value, or a fault; both readings must tell so.
func reads(t *testing.T, src string, v api.Value, f api.Fault) {
	t.Helper()
	got, fault := value.Read(src)
	if !reflect.DeepEqual(got, v) || fault != f {
		t.Errorf("Read(%q) = %s, %v, want %s, %v", short(src), short(got), fault, short(v), f)
	}
	if want, fault := wantRead(src); !reflect.DeepEqual(want, v) || fault != f {
		t.Errorf("the second reading of %q is %s, %v, want %s, %v", short(src), short(want), fault, short(v), f)
	}
}

// P8.4: texts that are values
func TestRead(t *testing.T) {
	for src, v := range map[string]api.Value{
		"0": num(0), "~0": num(0), "~ 7": num(-7), "4611686018427387903": num(1<<62 - 1), "~4611686018427387903": num(1 - 1<<62), " # seven\n 7 # 8\n": num(7), "(((7)))": num(7),
		`""`: {Kind: api.VaBytes}, `"a\x00\n\"é"`: text("a\x00\n\"é"), `"` + strings.Repeat("a", 64) + `"`: long(64),
		"Nil": con("Nil"), "Cons(1,Nil)": con("Cons", num(1), con("Nil")), "(1, ~2)": tuple(num(1), num(-2)), "A((1, 2))": con("A", tuple(num(1), num(2))), "A((1), 2)": con("A", num(1), num(2)),
		"\n( (Nil), A ( \"b\" ,(1,2) ) )\n": tuple(con("Nil"), con("A", text("b"), tuple(num(1), num(2)))), "(1,2,3,4,5,6)": tuple(num(1), num(2), num(3), num(4), num(5), num(6)),
	} {
		reads(t, src, v, api.Fault{})
	}
	deep := nested(63, num(1), func(v api.Value) api.Value { return con("A", v) })
	reads(t, strings.Repeat("A(", 63)+"1"+strings.Repeat(")", 63), deep, api.Fault{})
}

// faulty wants a text to have a fault at a place.
func faulty(t *testing.T, src string, err api.Errno, line, col int) {
	t.Helper()
	reads(t, src, api.Value{}, api.Fault{Err: err, At: api.Pos{Line: line, Col: col}})
}

// P8.4: what is wrong with a text as an expression, whatever it is of
func TestReadWhatIsNoExpr(t *testing.T) {
	for src, err := range map[string]api.Errno{
		"": api.ErrWant, " ": api.ErrWant, ")": api.ErrWant, "#": api.ErrWant, "~": api.ErrWant, "_": api.ErrWant, "\xff": api.ErrUtf8, "@": api.ErrChar, "\"a": api.ErrText, "\"\\q\"": api.ErrText,
		"4611686018427387904": api.ErrNum, "int(1)": api.ErrName, "len(1, 2)": api.ErrCount, "A" + strings.Repeat("b", 24): api.ErrLong, "\"" + strings.Repeat("a", 65) + "\"": api.ErrLong,
		"x \xff": api.ErrUtf8, "x y": api.ErrWant, "1 2": api.ErrWant, "x int(1)": api.ErrWant, "(x, len(1, 2)": api.ErrCount, "(x, 1": api.ErrWant, "Cons(1, x)) y": api.ErrWant,
		"(1,2,3,4,5,6,7)": api.ErrMany, "A(1,2,3,4,5,6,x)": api.ErrMany, strings.Repeat("A(", 64) + "x" + strings.Repeat(")", 64): api.ErrDeep, strings.Repeat("1", 1<<14+1): api.ErrLong,
		strings.Repeat("(", 1<<12): api.ErrMany, "queue 1 state int cap 0 = 0": api.ErrWant,
	} {
		_, f := wantRead(src)
		if f.Err != err {
			t.Errorf("%q has the fault %d, want %d", short(src), f.Err, err)
		}
		reads(t, src, api.Value{}, f)
	}
	faulty(t, "(x,\n y, @)", api.ErrChar, 2, 5)
	faulty(t, "A(x, 1\n", api.ErrWant, 2, 1)
	faulty(t, "", api.ErrWant, 1, 1)
	faulty(t, "1 + len(1, 2) e", api.ErrCount, 1, 5)
}

// P8.4: parts of each other kind, and their places
func TestReadWhatIsNoValue(t *testing.T) {
	others := map[string]int{ // by their texts, how far behind their beginnings their places are
		"x": 0, "state": 0, "f(1)": 0, "f(x, y)": 0, "let x = 1 in 2": 0, "if True then 1 else 2": 0, "match 1 with _ -> 1 end": 0, "for 3 with x = 1 do 2": 0,
		"len(\"a\")": 0, "at(\"a\", 1)": 0, "cat(\"a\", \"b\")": 0, "cut(\"a\", 1, 2)": 0, "1 + 2": 2, "1 - x": 2, "x * 2": 2, "10 / 2": 3, "1 % 2": 2, "1 < 2": 2, "1 <= 2": 2, "1 == x": 2, "1 + 2 * x": 2,
		"x * 2 + 1": 6, "A(x) == 1": 5, "(x)": 1, "((x + y))": 4,
	}
	for other, behind := range others {
		for _, around := range []string{"%", " %", "(%)", "(%, 1)", "(1, %)", "Cons(1, %)", "A(%)", "A(B, (\"x\", %), y)", "(A(1), B(2), C((3, (4, %))))", "A(%, x, x + 1)"} {
			col := strings.Index(around, "%") + 1 + behind
			faulty(t, strings.Replace(around, "%", other, 1), api.ErrForm, 1, col)
			faulty(t, "\n # x\n"+strings.Replace(around, "%", other, 1), api.ErrForm, 3, col)
		}
	}
}

// P8.4: the first of several that are none, itself ahead of its Kids, these from the left
func TestReadTheFirst(t *testing.T) {
	for src, col := range map[string]int{
		"Cons(1, x)": 9, "(x, y)": 2, "(1, y, x)": 5, "(A(1, x), y)": 7, "(A(1, B), y)": 11, "(1, x + y)": 7, "(x + y, z)": 4, "x + f(y)": 3, "f(x)": 1, "A(f(x), y)": 3,
		"(A, (B, (C, x), y), z)": 13, "A(B(C(1), D(x)), E(y))": 13, "let x = y in z": 1, "A((x), (y + z))": 4, "(1 + 2, x)": 4, "(x) + y": 5, "A(1, (2, 3), len(x), at(y, z))": 14,
	} {
		faulty(t, src, api.ErrForm, 1, col)
	}
}

// spread is tokens with any blanks and remarks between them.
func (s *sower) spread(tokens []string) string {
	src := ""
	for _, token := range tokens {
		src += pick(s, []string{" ", "\n", "  ", " # x\n", "\t "}) + token
	}
	return src + pick(s, []string{"", " ", "\n", "#"})
}

// P8.4: rows of tokens that look like chance
func TestReadAnyText(t *testing.T) {
	s := sower(1234567)
	tokens := []string{"1", "~", "x", "state", "A", "B", "(", "(", ")", ")", ",", ",", "+", "*", "<", "\"a\"", "\"", "f", "len", "let", "in", "=", "if", "@", "int"}
	seen := map[api.Errno]int{}
	ask := func(src string) {
		v, f := wantRead(src)
		reads(t, src, v, f)
		seen[f.Err]++
	}
	for range 8000 {
		ask(s.spread(some(1+s.below(7), func() string { return pick(&s, tokens) })))
		l := spelled(s.fitValue(1 + s.below(4)))
		l[s.below(len(l))] = pick(&s, tokens)
		ask(s.spread(l))
	}
	for _, err := range []api.Errno{api.OK, api.ErrForm, api.ErrWant, api.ErrText, api.ErrChar, api.ErrName} {
		if seen[err] < 20 {
			t.Errorf("%d texts had the fault %d: too few", seen[err], err)
		}
	}
}

// P8.5: values, their texts, and these with other blanks
func TestThereAndBack(t *testing.T) {
	s := sower(362436069)
	seen := map[int]int{}
	for i := range 4000 {
		v := s.fitValue(1 + i%5)
		src := value.Text(v)
		if src == "" {
			t.Fatalf("%s has no text", short(v))
		}
		if len(spelled(v)) >= 1<<12 || len(src) > 1<<14 {
			continue // too long to be read
		}
		seen[deepness(v)]++
		reads(t, src, trim(v), api.Fault{})
		reads(t, s.spread(spelled(v)), trim(v), api.Fault{})
		if got, _ := value.Read(src); !value.Same(got, v) || value.Text(got) != src {
			t.Errorf("the text of %s is read as %s", short(v), short(got))
		}
	}
	for depth := 1; depth <= 5; depth++ {
		if seen[depth] < 100 {
			t.Errorf("%d values %d deep were read: too few", seen[depth], depth)
		}
	}
}

// P8.5: values of any form: of those that have a text, it is read as them
func TestThereAndBackOfAnyForm(t *testing.T) {
	s := sower(521288629)
	back := 0
	for i := range 3000 {
		v := s.anyValue(edgeNames(), 1+i%4)
		if src := value.Text(v); src != "" {
			reads(t, src, trim(v), api.Fault{})
			back++
		}
	}
	if back < 300 {
		t.Errorf("%d values had texts: too few", back)
	}
	for _, wrap := range wraps()[:4] {
		for _, inner := range []api.Value{num(1 - 1<<62), long(64), con("A" + strings.Repeat("b", 23)), text("\x00\xff\n\"\\é")} {
			v := nested(63, inner, wrap)
			reads(t, value.Text(v), v, api.Fault{})
		}
	}
	for b := range 256 {
		v := text(strings.Repeat(string([]byte{byte(b)}), 1+b%64))
		reads(t, value.Text(v), v, api.Fault{})
	}
}
