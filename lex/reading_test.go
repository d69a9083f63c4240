package lex_test

import (
	"bytes"
	"math/big"
	"regexp"
	"slices"
	"strconv"
	"strings"
	"testing"
	"unicode/utf8"

	"handloom/api"
	"handloom/lex"
	"handloom/runes"
)

// The chapter's words, by patterns: another reading than the program's, to hold it against.
var (
	passedForm = regexp.MustCompile(`^(?:[\t\n\r ]|#[^\n]*)*`)
	nameForm   = regexp.MustCompile(`^[a-zA-Z\x{80}-\x{10ffff}][a-zA-Z0-9_\x{80}-\x{10ffff}]*`)
	numForm    = regexp.MustCompile(`^[0-9]+`)
	textForm   = regexp.MustCompile(`^"(?:[^"\\\n]|\\[nt"\\]|\\x[0-9a-f][0-9a-f])*"`)
	escapeForm = regexp.MustCompile(`\\(?:[nt"\\]|x[0-9a-f][0-9a-f])`)
)

func allWords() []string {
	return []string{
		"cap", "do", "else", "end", "for", "fun", "if", "in", "let", "match", "of", "on",
		"queue", "state", "then", "timers", "type", "with",
	}
}

// allSigns has longer ones ahead of those that begin them.
func allSigns() []string {
	return []string{"->", "<=", "==", "(", ")", ",", "|", "=", ":", "+", "-", "*", "/", "%", "<", "_", "~"}
}

// placeAt is the place of a byte at which a rune begins, or of the end.
func placeAt(src string, off int) api.Pos {
	ahead := src[:off]
	line := ahead[strings.LastIndex(ahead, "\n")+1:]
	return api.Pos{Line: 1 + strings.Count(ahead, "\n"), Col: 1 + utf8.RuneCountInString(line)}
}

// wantBytes is what a text in quotes stands for.
func wantBytes(quoted string) []byte {
	inner := []byte(quoted[1 : len(quoted)-1])
	return escapeForm.ReplaceAllFunc(inner, func(e []byte) []byte {
		switch e[1] {
		case 'n':
			return []byte{10}
		case 't':
			return []byte{9}
		case 'x':
			n, _ := strconv.ParseUint(string(e[2:]), 16, 8)
			return []byte{byte(n)}
		}
		return e[1:]
	})
}

// wantName is the token of a name, without its place, and what is wrong with it.
func wantName(name string) (api.Token, api.Errno) {
	kind := api.TkLow
	switch {
	case utf8.RuneCountInString(name) > 24:
		return api.Token{}, api.ErrLong
	case slices.Contains(allWords(), name):
		kind = api.TkWord
	case 'A' <= name[0] && name[0] <= 'Z':
		kind = api.TkUp
	}
	return api.Token{Kind: kind, Text: name}, api.OK
}

// wantToken is the token that begins a text, how many bytes it has, and what is wrong with it.
func wantToken(rest string) (api.Token, int, api.Errno) {
	if rest == "" {
		return api.Token{Kind: api.TkEnd}, 0, api.OK
	}
	if name := nameForm.FindString(rest); name != "" {
		t, err := wantName(name)
		return t, len(name), err
	}
	if digits := numForm.FindString(rest); digits != "" {
		n, _ := new(big.Int).SetString(digits, 10)
		if n.BitLen() > 62 {
			return api.Token{}, 0, api.ErrNum
		}
		return api.Token{Kind: api.TkNum, Num: n.Int64()}, len(digits), api.OK
	}
	if rest[0] == '"' {
		quoted := textForm.FindString(rest)
		if quoted == "" {
			return api.Token{}, 0, api.ErrText
		}
		l := wantBytes(quoted)
		if len(l) > 64 {
			return api.Token{}, 0, api.ErrLong
		}
		return api.Token{Kind: api.TkText, Bytes: l}, len(quoted), api.OK
	}
	for _, sign := range allSigns() {
		if strings.HasPrefix(rest, sign) {
			return api.Token{Kind: api.TkSign, Text: sign}, len(sign), api.OK
		}
	}
	return api.Token{}, 0, api.ErrChar
}

func wantLex(src string) ([]api.Token, api.Fault) {
	if _, fault := runes.Split(src); fault != (api.Fault{}) {
		return nil, fault
	}
	var l []api.Token
	for off := 0; ; {
		off += len(passedForm.FindString(src[off:]))
		t, count, err := wantToken(src[off:])
		t.At = placeAt(src, off)
		if err == api.OK && len(l) == 4096 {
			err = api.ErrMany
		}
		if err != api.OK {
			return nil, api.Fault{Err: err, At: t.At}
		}
		l = append(l, t)
		if t.Kind == api.TkEnd {
			return l, api.Fault{}
		}
		off += count
	}
}

func sameToken(a, b api.Token) bool {
	return a.Kind == b.Kind && a.Text == b.Text && a.Num == b.Num && bytes.Equal(a.Bytes, b.Bytes) && a.At == b.At
}

func sameBut(a, b api.Token) bool {
	a.At, b.At = api.Pos{}, api.Pos{}
	return sameToken(a, b)
}

// short cuts a text that is told of.
func short(src string) string {
	if len(src) > 200 {
		return src[:200] + " .. of " + strconv.Itoa(len(src))
	}
	return src
}

// holds holds Lex of a text against the chapter's words.
func holds(t *testing.T, src string) {
	t.Helper()
	got, fault := lex.Lex(src)
	want, wantFault := wantLex(src)
	if fault != wantFault || !slices.EqualFunc(got, want, sameToken) {
		t.Fatalf("Lex(%+q) = %d tokens %v, want %d %v\ngot  %v\nwant %v",
			short(src), len(got), fault, len(want), wantFault, got[:min(len(got), 12)], want[:min(len(want), 12)])
	}
	if fault != (api.Fault{}) && got != nil {
		t.Fatalf("Lex(%+q) tells %v beside %v", short(src), got, fault)
	}
}

// fails wants Lex of a text to tell one fault, and nothing beside it.
func fails(t *testing.T, src string, err api.Errno, line, col int) {
	t.Helper()
	want := api.Fault{Err: err, At: api.Pos{Line: line, Col: col}}
	if got, fault := lex.Lex(src); fault != want || got != nil {
		t.Errorf("Lex(%+q) = %d tokens %v, want %v", short(src), len(got), fault, want)
	}
	holds(t, src)
}

// reads wants Lex of a text to tell tokens.
func reads(t *testing.T, src string, want ...api.Token) {
	t.Helper()
	if got, fault := lex.Lex(src); fault != (api.Fault{}) || !slices.EqualFunc(got, want, sameToken) {
		t.Errorf("Lex(%+q) = %v %v, want %v", short(src), got, fault, want)
	}
	holds(t, src)
}

func at(line, col int) api.Pos { return api.Pos{Line: line, Col: col} }

func low(s string, line, col int) api.Token {
	return api.Token{Kind: api.TkLow, Text: s, At: at(line, col)}
}

func up(s string, line, col int) api.Token {
	return api.Token{Kind: api.TkUp, Text: s, At: at(line, col)}
}

func word(s string, line, col int) api.Token {
	return api.Token{Kind: api.TkWord, Text: s, At: at(line, col)}
}

func sign(s string, line, col int) api.Token {
	return api.Token{Kind: api.TkSign, Text: s, At: at(line, col)}
}

func num(n int64, line, col int) api.Token {
	return api.Token{Kind: api.TkNum, Num: n, At: at(line, col)}
}

func text(s string, line, col int) api.Token {
	return api.Token{Kind: api.TkText, Bytes: []byte(s), At: at(line, col)}
}

func end(line, col int) api.Token { return api.Token{Kind: api.TkEnd, At: at(line, col)} }

// sower gives numbers that look like chance, the same ones each time.
type sower uint64

func (s *sower) below(n int) int {
	x := uint64(*s)
	x ^= x << 13
	x ^= x >> 7
	x ^= x << 17
	*s = sower(x)
	return int(x>>11) % n
}

func pick[T any](s *sower, l []T) T { return l[s.below(len(l))] }

// pieces are what texts are put together of: all kinds of tokens, and beginnings of them; blanks; what can't be.
func pieces() []string {
	l := append(allWords(), allSigns()...)
	return append(l,
		"a", "z9_", "é", "\u0080b", "\U0010ffff", "capx", "iF", "A", "Zé_1", "If", "x1y2", "aaaaaaaaaaaaaaaaaaaaaaaa",
		"0", "00", "7", "4611686018427387903", "461168601842738790", "1",
		`"`, `""`, `"a b"`, `"é#"`, `"\n\t\"\\"`, `"\x00\xff"`, `\`, `\n`, `\t`, `\x`, `\x0a`, `\xA0`, "'", "\x00",
		" ", "  ", "\t", "\r", "\n", "\n", "#", "# a \"\n", "#\n", ">", "!", "@", ".", ";", "[", "{", "$", "&", "^", "?", "\v", "\f", "\x7f",
	)
}

// text puts together so many pieces; some alike are glued, some not.
func (s *sower) text(count int, from []string) string {
	var b strings.Builder
	for range count {
		b.WriteString(pick(s, from))
		if s.below(3) == 0 {
			b.WriteByte(' ')
		}
	}
	return b.String()
}

// goodPieces are those of which every text has tokens, whatever stands beside them; blanks and remarks among them.
func goodPieces() []string {
	l := append(allWords(), allSigns()...)
	return append(l,
		"a ", "z9_ ", "é ", "capx ", "A ", "Zé_1 ", "0 ", "007 ", "12", "4611686018427387903 ",
		`""`, `"a b"`, `"é#`+"\r\t"+`"`, `"\n\t\"\\"`, `"\x00\xff\x7f~ "`, `"`+"\x00\x7f\U0010ffff"+`"`,
		" ", "\t", "\r", "\n", "#\n", "# a \"\\@ é\n", "\n\n  \n")
}

// goodText is a text of tokens, with none of its names too long.
func (s *sower) goodText(t *testing.T, count int) (string, []api.Token) {
	t.Helper()
	for {
		src := s.text(s.below(count), goodPieces())
		if l, fault := lex.Lex(src); fault == (api.Fault{}) {
			return src, l
		} else if fault.Err != api.ErrLong && fault.Err != api.ErrNum {
			t.Fatalf("Lex(%+q) tells %v", src, fault)
		}
	}
}
