package lex_test

import (
	"math"
	"slices"
	"strings"
	"testing"

	"handloom/api"
	"handloom/lex"
	"handloom/runes"
)

// P3.1
func TestLexByHand(t *testing.T) {
	reads(t, "", end(1, 1))
	reads(t, " ", end(1, 2))
	reads(t, "\n", end(2, 1))
	reads(t, "\t\r \n ", end(2, 2))
	reads(t, "#", end(1, 2))
	reads(t, "# a @ \" \\", end(1, 10))
	reads(t, "# a\n", end(2, 1))
	reads(t, "a#b\r#c\nd", low("a", 1, 1), low("d", 2, 1), end(2, 2))
	reads(t, "let x = 12", word("let", 1, 1), low("x", 1, 5), sign("=", 1, 7), num(12, 1, 9), end(1, 11))
	reads(t, "let  X# of\n\n =\t\"é\"", word("let", 1, 1), up("X", 1, 6), sign("=", 3, 2), text("é", 3, 4), end(3, 7))
	reads(t, "ab_9é_ B_ _b __", low("ab_9é_", 1, 1), up("B_", 1, 8), sign("_", 1, 11), low("b", 1, 12), sign("_", 1, 14), sign("_", 1, 15), end(1, 16))
	reads(t, "éA\u2028\U0010ffff É", low("éA\u2028\U0010ffff", 1, 1), low("É", 1, 6), end(1, 7))
	reads(t, "12ab3 4A5", num(12, 1, 1), low("ab3", 1, 3), num(4, 1, 7), up("A5", 1, 8), end(1, 10))
	reads(t, "0 00 007 10", num(0, 1, 1), num(0, 1, 3), num(7, 1, 6), num(10, 1, 10), end(1, 12))
	reads(t, "letx Let if1 _if if_", low("letx", 1, 1), up("Let", 1, 6), low("if1", 1, 10), sign("_", 1, 14), word("if", 1, 15), low("if_", 1, 18), end(1, 21))
	reads(t, `f("a"(1)"b")`, low("f", 1, 1), sign("(", 1, 2), text("a", 1, 3), sign("(", 1, 6), num(1, 1, 7), sign(")", 1, 8), text("b", 1, 9), sign(")", 1, 12), end(1, 13))
	reads(t, "-->->-", sign("-", 1, 1), sign("->", 1, 2), sign("->", 1, 4), sign("-", 1, 6), end(1, 7))
	reads(t, "<==<<===", sign("<=", 1, 1), sign("=", 1, 3), sign("<", 1, 4), sign("<=", 1, 5), sign("==", 1, 7), end(1, 9))
	reads(t, "~1-2", sign("~", 1, 1), num(1, 1, 2), sign("-", 1, 3), num(2, 1, 4), end(1, 5))
}

// P3.1: each escape, and runes that need none
func TestTexts(t *testing.T) {
	reads(t, `""`, text("", 1, 1), end(1, 3))
	reads(t, `""""`, text("", 1, 1), text("", 1, 3), end(1, 5))
	reads(t, `"\n\t\"\\"`, text("\n\t\"\\", 1, 1), end(1, 11))
	reads(t, `"\x00\x0a\x7f\x80\xff\xe9"`, text("\x00\x0a\x7f\x80\xff\xe9", 1, 1), end(1, 27))
	reads(t, `"\x41b\\n\\x41\x5cn"`, text(`Ab\n\x41\n`, 1, 1), end(1, 21))
	reads(t, "\"é\u20ac\U0001f600#\t\r\x00\x7f'\"#\"", text("é\u20ac\U0001f600#\t\r\x00\x7f'", 1, 1), end(1, 14))
	reads(t, `"# no remark" # one "`, text("# no remark", 1, 1), end(1, 22))
	if l, _ := lex.Lex(`""`); len(l) != 2 || l[0].Bytes != nil {
		t.Error("an empty text has a list of bytes: an empty list is none")
	}
	for n := range 256 {
		const digits = "0123456789abcdef"
		src := `"\x` + digits[n>>4:n>>4+1] + digits[n&15:n&15+1] + `"`
		reads(t, src, text(string([]byte{byte(n)}), 1, 1), end(1, 7))
	}
}

// P3.1: all words, and all that differ from one by a rune
func TestWords(t *testing.T) {
	for _, w := range allWords() {
		reads(t, w, word(w, 1, 1), end(1, 1+len(w)))
		for _, rest := range []string{"x", "X", "_", "9", "é"} {
			reads(t, w+rest, low(w+rest, 1, 1), end(1, 2+len(w)))
		}
		great := strings.ToUpper(w[:1]) + w[1:]
		reads(t, great, up(great, 1, 1), end(1, 1+len(w)))
		holds(t, "x"+w)
		holds(t, w[1:])
		holds(t, w[:len(w)-1])
	}
}

// P3.1: all signs, and all rows of three of them, glued: the longest one is told
func TestSigns(t *testing.T) {
	for _, a := range allSigns() {
		reads(t, a, sign(a, 1, 1), end(1, 1+len(a)))
		reads(t, a+"#", sign(a, 1, 1), end(1, 2+len(a)))
		for _, b := range allSigns() {
			for _, c := range allSigns() {
				holds(t, a+b+c)
			}
		}
	}
}

// P3.1
func TestNoTokenBegins(t *testing.T) {
	fails(t, "a@", api.ErrChar, 1, 2)
	fails(t, "a\n b @@", api.ErrChar, 2, 4)
	fails(t, "> =", api.ErrChar, 1, 1)
	fails(t, "->>", api.ErrChar, 1, 3)
	fails(t, "- >", api.ErrChar, 1, 3)
	fails(t, "=>", api.ErrChar, 1, 2)
	fails(t, "é!", api.ErrChar, 1, 2)
	fails(t, `a \n`, api.ErrChar, 1, 3)
	begins := "\"#()*+,-/:<=_|~% \t\n\r"
	for c := rune(0); c < 128; c++ {
		if runes.Low(c) || runes.Up(c) || runes.Digit(c) || strings.ContainsRune(begins, c) {
			continue
		}
		fails(t, string(c), api.ErrChar, 1, 1)
		fails(t, "a "+string(c)+"a", api.ErrChar, 1, 3)
	}
}

// P3.1
func TestNamesOfMaxName(t *testing.T) {
	for _, first := range []string{"a", "A", "é", "\U0010ffff"} {
		for _, rest := range []string{"b", "B", "_", "7", "é", "\U0001f600"} {
			just := first + strings.Repeat(rest, 23)
			kind := api.TkLow
			if first == "A" {
				kind = api.TkUp
			}
			reads(t, just, api.Token{Kind: kind, Text: just, At: at(1, 1)}, end(1, 25))
			fails(t, just+rest, api.ErrLong, 1, 1)
			fails(t, "x\n "+just+rest+" y", api.ErrLong, 2, 2)
			fails(t, strings.Repeat(just, 3), api.ErrLong, 1, 1)
		}
	}
	fails(t, strings.Repeat("a", api.MaxSource), api.ErrLong, 1, 1)
	fails(t, "state"+strings.Repeat("x", 20), api.ErrLong, 1, 1)
}

// P3.1
func TestNumbersAtTheEdge(t *testing.T) {
	const most = 1<<62 - 1
	reads(t, "4611686018427387903", num(most, 1, 1), end(1, 20))
	reads(t, "00000000000000000000000004611686018427387903", num(most, 1, 1), end(1, 45))
	reads(t, "4611686018427387902 4611686018427387899", num(most-1, 1, 1), num(most-4, 1, 21), end(1, 40))
	reads(t, strings.Repeat("0", api.MaxSource), num(0, 1, 1), end(1, 1+api.MaxSource))
	for _, src := range []string{
		"4611686018427387904", "4611686018427387905", "4611686018427387909", "4611686018427387910", "4611686018427387913",
		"5000000000000000000", "9223372036854775807", "9223372036854775808", "18446744073709551615", "18446744073709551616",
		"18446744073709551617", "46116860184273879030", "184467440737095516160", "99999999999999999999", "36893488147419103233",
		"340282366920938463463374607431768211456", "0004611686018427387904", strings.Repeat("9", api.MaxSource),
		"1" + strings.Repeat("0", 64), "46116860184273879039",
	} {
		fails(t, src, api.ErrNum, 1, 1)
	}
	fails(t, "x\n  4611686018427387904y", api.ErrNum, 2, 3)
	fails(t, "-4611686018427387904", api.ErrNum, 1, 2)
}

// P3.1
func TestTextsThatCantBe(t *testing.T) {
	for _, src := range []string{
		`"`, `"a`, `"ab`, "\"\n\"", "\"a\n", "\"a\n\"", `"\`, `"\"`, `"a\"`, `"\\\"`, `"\q"`, `"\ "`, `"\N"`, `"\'"`, `"\0"`, `"\u0041"`,
		"\"\\\n\"", "\"\\é\"", "\"\\\x00\"", `"\X41"`, `"\x"`, `"\x4"`, `"\x4 "`, `"\xg0"`, `"\x0g"`, `"\xA0"`, `"\x0A"`, `"\xFF"`, `"\x`, `"\x4`, `"\x41`,
		"\"\\x\n\"", "\"\\x4\n\"", `"\x-1"`, `"\x/0"`, `"\x:0"`, "\"\\x`0\"", `"\x0/"`, `"\x0:"`, "\"\\x0`\"", `"\x é"`, `"\x"00"`, `"\x\x00"`, `"\n\t\r"`,
		`"# `, `"#\`, "\"#\n\"",
	} {
		fails(t, src, api.ErrText, 1, 1)
		fails(t, "x\n "+src+"\n\"\"", api.ErrText, 2, 2)
	}
	fails(t, `"" "`, api.ErrText, 1, 4)
	fails(t, `"a"b"`, api.ErrText, 1, 5)
}

// P3.1: bytes count, not runes; that a text can't be comes ahead of its being too long
func TestTextsOfMaxBytes(t *testing.T) {
	for _, one := range []struct {
		src   string
		bytes string
	}{
		{"a", "a"}, {" ", " "}, {"#", "#"}, {"é", "é"}, {"\u20ac", "\u20ac"}, {"\U0001f600", "\U0001f600"}, {`\n`, "\n"}, {`\"`, `"`}, {`\\`, `\`}, {`\xff`, "\xff"}, {`\x61`, "a"},
	} {
		for _, fill := range []int{64, 65, 66, 67, 128, 1000} {
			count := fill / len(one.bytes)
			rest := fill % len(one.bytes)
			inner := strings.Repeat(one.src, count) + strings.Repeat("b", rest)
			columns := len([]rune(inner))
			if fill == 64 {
				want := strings.Repeat(one.bytes, count) + strings.Repeat("b", rest)
				reads(t, `"`+inner+`"`, text(want, 1, 1), end(1, columns+3))
			} else {
				fails(t, "x "+`"`+inner+`"`, api.ErrLong, 1, 3)
			}
			fails(t, "x "+`"`+inner, api.ErrText, 1, 3)
			fails(t, "x "+`"`+inner+`\q"`, api.ErrText, 1, 3)
			fails(t, "x "+`"`+inner+"\n\"", api.ErrText, 1, 3)
			fails(t, "x "+`"`+inner+`\`, api.ErrText, 1, 3)
		}
	}
	fails(t, `"`+strings.Repeat("a", api.MaxSource-2)+`"`, api.ErrLong, 1, 1)
	fails(t, `"`+strings.Repeat("a", api.MaxSource-1), api.ErrText, 1, 1)
}

// P3.1: just MaxTokens, and one more, be that the end or not; what is wrong with that one itself comes first
func TestMaxTokens(t *testing.T) {
	const most = 1 << 12
	names := func(count int) string { return strings.Repeat("a ", count) }
	signs := func(count int) string { return strings.Repeat("(", count) }
	for _, src := range []string{names(most - 1), signs(most - 1), names(most-2) + "a#", strings.Repeat("1\n", most-1), names(most-1) + strings.Repeat(" ", 8194)} {
		if l, fault := lex.Lex(src); fault != (api.Fault{}) || len(l) != most || l[most-1].Kind != api.TkEnd || l[most-2].Kind == api.TkEnd {
			t.Errorf("Lex of %d tokens with the end: %d, %v", most, len(l), fault)
		}
		holds(t, src)
	}
	fails(t, names(most), api.ErrMany, 1, 2*most+1)
	fails(t, signs(most), api.ErrMany, 1, most+1)
	fails(t, strings.Repeat("1\n", most)+"# \n ", api.ErrMany, most+2, 2)
	fails(t, strings.Repeat("1\n", most)+"\n b b", api.ErrMany, most+2, 2)
	fails(t, names(most)+"a a", api.ErrMany, 1, 2*most+1)
	fails(t, names(most)+`if @ "`, api.ErrMany, 1, 2*most+1)
	fails(t, signs(api.MaxSource), api.ErrMany, 1, most+1)
	fails(t, names(most)+"@", api.ErrChar, 1, 2*most+1)
	fails(t, names(most)+strings.Repeat("a", 25), api.ErrLong, 1, 2*most+1)
	fails(t, names(most)+"4611686018427387904", api.ErrNum, 1, 2*most+1)
	fails(t, names(most)+`"`, api.ErrText, 1, 2*most+1)
	fails(t, names(most)+`"`+strings.Repeat("a", 65)+`"`, api.ErrLong, 1, 2*most+1)
	fails(t, names(most-1)+`@`, api.ErrChar, 1, 2*most-1)
}

// P3.1: what is wrong with the text as runes comes first, wherever it stands
func TestSplitsFaultComesFirst(t *testing.T) {
	fails(t, "\xff", api.ErrUtf8, 1, 1)
	fails(t, "@ \xff", api.ErrUtf8, 1, 3)
	fails(t, "@\n\"\\q\" 9999999999999999999\n\xc3", api.ErrUtf8, 3, 1)
	fails(t, "# \xed\xa0\x80", api.ErrUtf8, 1, 3)
	fails(t, "\"\xe2\x82\"", api.ErrUtf8, 1, 2)
	fails(t, strings.Repeat("(", 5000)+"\x80", api.ErrUtf8, 1, 5001)
	fails(t, strings.Repeat("@", api.MaxSource+1), api.ErrLong, 1, 1)
	fails(t, strings.Repeat(" ", api.MaxSource)+"\xff", api.ErrLong, 1, 1)
	fails(t, "\n@"+strings.Repeat("\n", api.MaxSource), api.ErrLong, 1, 1)
	reads(t, strings.Repeat(" ", api.MaxSource), end(1, api.MaxSource+1))
	reads(t, "\ufffd", low("\ufffd", 1, 1), end(1, 2))
}

// P3.1: of several things that are wrong with tokens the leftmost is told
func TestTheLeftmostFault(t *testing.T) {
	wrong := []struct {
		src string
		err api.Errno
	}{
		{"@", api.ErrChar}, {strings.Repeat("b", 25), api.ErrLong}, {"4611686018427387904", api.ErrNum},
		{`"\q"`, api.ErrText}, {`"` + strings.Repeat("c", 65) + `"`, api.ErrLong},
	}
	for _, a := range wrong {
		for _, b := range wrong {
			fails(t, "x\n y "+a.src+"\n"+b.src, a.err, 2, 4)
		}
		fails(t, "x\n y "+a.src+"\n\"", a.err, 2, 4)
	}
}

// P3.1: all texts of up to three of some runes that tokens begin with, or can't
func TestAllShortTexts(t *testing.T) {
	l := []string{"a", "B", "x", "0", "f", "n", "é", "_", "\"", "\\", "\n", "\t", "#", "-", ">", "<", "=", "(", "~", "@", "\x00"}
	for _, a := range l {
		holds(t, a)
		for _, b := range l {
			holds(t, a+b)
			for _, c := range l {
				holds(t, a+b+c)
				holds(t, `"`+a+b+c+`"`)
				holds(t, `"\`+a+b+c+`"`)
			}
		}
	}
}

// P3.1, and 0.1: texts of any pieces, and of any bytes
func TestAnyText(t *testing.T) {
	s := sower(88172645463325252)
	for range 6000 {
		holds(t, s.text(s.below(12), pieces()))
		holds(t, s.text(s.below(40), goodPieces()))
	}
	for range 2000 {
		b := make([]byte, s.below(20))
		for i := range b {
			b[i] = byte(s.below(256))
			if s.below(4) > 0 {
				b[i] &= 127
			}
		}
		holds(t, string(b))
	}
}

// P3.2
func TestShowByHand(t *testing.T) {
	rows := []struct {
		token api.Token
		want  string
	}{
		{low("abc", 1, 1), "abc"}, {low("é", 3, 4), "é"}, {up("Nil", 0, 0), "Nil"}, {word("let", 1, 1), "let"}, {sign("->", 1, 1), "->"},
		{num(0, 1, 1), "0"}, {num(12, 1, 1), "12"}, {num(1<<62-1, 1, 1), "4611686018427387903"}, {num(math.MaxInt64, 1, 1), "9223372036854775807"},
		{num(-1, 1, 1), "0"}, {num(-12, 1, 1), "0"}, {num(math.MinInt64, 1, 1), "0"},
		{text("", 1, 1), `""`}, {text("a\n", 1, 1), `"a\x0a"`}, {text("\t\r\x00\x1f\x7f\x80\xff", 1, 1), `"\x09\x0d\x00\x1f\x7f\x80\xff"`},
		{text(` !"#[\]~'`, 1, 1), `" !\"#[\\]~'"`}, {text("é", 1, 1), `"\xc3\xa9"`}, {text(`\n\x41`, 1, 1), `"\\n\\x41"`},
		{end(1, 1), ""}, {api.Token{}, ""},
	}
	for _, r := range rows {
		if got := lex.Show(r.token); got != r.want {
			t.Errorf("Show(%v) = %+q, want %+q", r.token, got, r.want)
		}
	}
}

// P3.2: of a token just what its kind has is shown, be the rest what it may; of kinds that are none nothing
func TestShowByKinds(t *testing.T) {
	for _, kind := range []int{api.TkEnd, -1, 7, 8, 100, math.MinInt, math.MaxInt} {
		if got := lex.Show(api.Token{Kind: kind, Text: "a", Num: 3, Bytes: []byte("b"), At: at(1, 1)}); got != "" {
			t.Errorf("Show of the kind %d: %q", kind, got)
		}
	}
	want := map[int]string{api.TkLow: "@ a", api.TkUp: "@ a", api.TkWord: "@ a", api.TkSign: "@ a", api.TkNum: "3", api.TkText: `"b"`}
	for kind, s := range want {
		if got := lex.Show(api.Token{Kind: kind, Text: "@ a", Num: 3, Bytes: []byte("b"), At: at(1, 1)}); got != s {
			t.Errorf("Show of the kind %d: %q, want %q", kind, got, s)
		}
	}
	for _, kind := range []int{api.TkLow, api.TkUp, api.TkWord, api.TkSign} {
		for _, s := range []string{"", "\xff", " ", "9", strings.Repeat("a", 100)} {
			if got := lex.Show(api.Token{Kind: kind, Text: s}); got != s {
				t.Errorf("Show of the kind %d, %q: %q", kind, s, got)
			}
		}
	}
}

// P3.2: each byte, and all of them in one text
func TestShowEachByte(t *testing.T) {
	var all []byte
	want := ""
	for n := range 256 {
		b := byte(n)
		const digits = "0123456789abcdef"
		one := `\x` + string(digits[n/16]) + string(digits[n%16])
		switch {
		case b == '"':
			one = `\"`
		case b == '\\':
			one = `\\`
		case 32 <= n && n <= 126:
			one = string(rune(b))
		}
		if got := lex.Show(api.Token{Kind: api.TkText, Bytes: []byte{b}}); got != `"`+one+`"` {
			t.Errorf("Show of the byte %d: %s", n, got)
		}
		all = append(all, b)
		want += one
	}
	if got := lex.Show(api.Token{Kind: api.TkText, Bytes: all}); got != `"`+want+`"` {
		t.Errorf("Show of all bytes: %s", got)
	}
}

// P3.2
func TestWordByHand(t *testing.T) {
	for _, w := range allWords() {
		if !lex.Word(w) || lex.Named(w, false) || lex.Named(w, true) {
			t.Errorf("%q is a word, and no name", w)
		}
		for _, s := range []string{" " + w, w + " ", w + "\n", "\t" + w, w + "#", "#\n" + w, w + "x", w + "_", w[:len(w)-1] + "é", strings.ToUpper(w), strings.ToUpper(w[:1]) + w[1:], w + " " + w, `"` + w + `"`, w + "\xff"} {
			if lex.Word(s) {
				t.Errorf("%q is no word", s)
			}
		}
	}
	for _, s := range []string{"", " ", "a", "int", "bytes", "len", "le", "timer", "wit", "fn", "_", "=", "7", "\xff", "and"} {
		if lex.Word(s) {
			t.Errorf("%q is no word", s)
		}
	}
}

// P3.2
func TestNamedByHand(t *testing.T) {
	long := strings.Repeat("\U0001f600", 24)
	for _, s := range []string{"a", "z", "aB_9", "é", "É", "int", "len", "lets", "iF", "a_", "\u0080", "\ufffd", "\U0010ffff", "x" + strings.Repeat("y", 23), long, "a__", "a0"} {
		if !lex.Named(s, false) || lex.Named(s, true) {
			t.Errorf("%q is a small name", s)
		}
	}
	for _, s := range []string{"A", "Z", "Nil", "Let", "IF", "A_", "A9é", "X" + strings.Repeat("y", 23), "X" + strings.Repeat("\U0001f600", 23)} {
		if lex.Named(s, false) || !lex.Named(s, true) {
			t.Errorf("%q is a great name", s)
		}
	}
	for _, s := range []string{
		"", " ", "_", "_a", "_A", "9", "9a", "a b", "A B", " a", "a ", "\ta", "a\n", "A\r", " A", "A ", "a#", "A#", "#", "#\na", "a#\n", "a@", "@", "a-", "(a)", "a,b", "a.b",
		`"a"`, "a\"", "a'", "\x00", "a\x00", "\xff", "a\xff", "A\xc3", "\xed\xa0\x80", "let", "state", "x" + strings.Repeat("y", 24), "X" + strings.Repeat("y", 24), long + "a", "A" + long,
		strings.Repeat("a", 97), strings.Repeat("a", api.MaxSource+1), strings.Repeat("A", 1<<16), "a" + strings.Repeat(" ", 100), "A" + strings.Repeat(" ", 1<<15),
	} {
		if lex.Named(s, false) || lex.Named(s, true) {
			t.Errorf("%q is no name", short(s))
		}
	}
}

// P3.2: Named is what Lex tells of a text that is all of one token
func TestNamedAndWordByLex(t *testing.T) {
	s := sower(362436069)
	for range 20000 {
		src := s.text(1+s.below(3), pieces())
		if s.below(2) == 0 {
			src = strings.TrimSpace(src)
		}
		l, _ := wantLex(src)
		one := len(l) == 2 && l[0].Text == src
		for _, great := range []bool{false, true} {
			want := one && (great && l[0].Kind == api.TkUp || !great && l[0].Kind == api.TkLow)
			if got := lex.Named(src, great); got != want {
				t.Fatalf("Named(%+q, %v) = %v", src, great, got)
			}
		}
		if got, want := lex.Word(src), one && l[0].Kind == api.TkWord; got != want {
			t.Fatalf("Word(%+q) = %v", src, got)
		}
	}
}

// P3.3
func TestThereAndBack(t *testing.T) {
	s := sower(521288629)
	for range 4000 {
		src, tokens := s.goodText(t, 40)
		var shown []string
		for _, one := range tokens {
			shown = append(shown, lex.Show(one))
		}
		again := strings.Join(shown, " ")
		back, fault := lex.Lex(again)
		if fault != (api.Fault{}) || !slices.EqualFunc(back, tokens, sameBut) {
			t.Fatalf("%+q is shown as %+q: %v, want %v", src, again, back, tokens)
		}
	}
}

// P3.3: each kind of token by itself, and texts of each byte
func TestEachTokenThereAndBack(t *testing.T) {
	var l []api.Token
	for _, w := range allWords() {
		l = append(l, word(w, 1, 1))
	}
	for _, s := range allSigns() {
		l = append(l, sign(s, 1, 1))
	}
	for n := range 256 {
		l = append(l, text(strings.Repeat(string([]byte{byte(n)}), 1+n%64), 1, 1))
	}
	for bit := range 62 {
		l = append(l, num(1<<bit, 1, 1), num(1<<bit-1, 1, 1), num(1<<62-1<<bit, 1, 1))
	}
	l = append(l, low("é_9", 1, 1), up("Zé", 1, 1), text("", 1, 1), low(strings.Repeat("\U0010ffff", 24), 1, 1))
	for _, one := range l {
		if back, fault := lex.Lex(lex.Show(one)); fault != (api.Fault{}) || len(back) != 2 || !sameToken(back[0], one) {
			t.Errorf("%v is shown as %q, which is %v %v", one, lex.Show(one), back, fault)
		}
	}
}

// begins is where, in bytes, each token of a text begins.
func begins(t *testing.T, src string, tokens []api.Token) []int {
	t.Helper()
	list, _ := runes.Split(src)
	offs := map[api.Pos]int{runes.Place(src, len(src)): len(src)}
	for _, r := range list {
		offs[r.At] = r.Off
	}
	var l []int
	for _, one := range tokens {
		off, ok := offs[one.At]
		if !ok {
			t.Fatalf("%v stands nowhere in %+q", one, src)
		}
		l = append(l, off)
	}
	return l
}

// P3.4
func TestBlanksAndRemarksMore(t *testing.T) {
	s := sower(123456789)
	more := []string{" ", "\t", "\r", "\n", "#\n", "# @ \" \\ é let\n", " \n\n\t# a\n#b\n ", "\r\n"}
	for range 2000 {
		src, tokens := s.goodText(t, 20)
		offs := begins(t, src, tokens)
		wide := src[:offs[0]]
		for i, off := range offs {
			if i == 0 || s.below(2) == 0 {
				wide += pick(&s, more)
			}
			next := len(src)
			if i+1 < len(offs) {
				next = offs[i+1]
			}
			wide += src[off:next]
		}
		back, fault := lex.Lex(wide)
		if fault != (api.Fault{}) || !slices.EqualFunc(back, tokens, sameBut) {
			t.Fatalf("%+q, wider %+q: %v %v, want %v", src, wide, back, fault, tokens)
		}
		holds(t, wide)
	}
}

func less(a, b api.Pos) bool { return a.Line < b.Line || a.Line == b.Line && a.Col < b.Col }

// P3.4: and each token stands where it is told to
func TestPlacesRise(t *testing.T) {
	s := sower(987654321)
	for range 2000 {
		src, tokens := s.goodText(t, 40)
		for i, off := range begins(t, src, tokens) {
			if i > 0 && !less(tokens[i-1].At, tokens[i].At) {
				t.Fatalf("%+q: %v stands behind %v", src, tokens[i-1], tokens[i])
			}
			if !strings.HasPrefix(src[off:], tokens[i].Text) {
				t.Fatalf("%+q: %v does not stand at its place", src, tokens[i])
			}
		}
		if last := tokens[len(tokens)-1]; last.At != runes.Place(src, len(src)) {
			t.Fatalf("%+q: the end is at %v", src, last.At)
		}
	}
}

// 0.5: what is told is new memory, what is given stays as it is
func TestAnswersShareNothing(t *testing.T) {
	const src = `"ab" "ab"`
	a, _ := lex.Lex(src)
	b, _ := lex.Lex(src)
	a[0].Bytes[0] = 'x'
	_ = append(a[0].Bytes, 'y')
	a[2].Kind = 9
	if string(a[1].Bytes) != "ab" || string(b[0].Bytes) != "ab" || b[2].Kind != api.TkEnd {
		t.Error("what Lex told is shared")
	}
	given := []byte("a\"\xff")
	lex.Show(api.Token{Kind: api.TkText, Bytes: given})
	if string(given) != "a\"\xff" {
		t.Error("Show changes what it is given")
	}
}
