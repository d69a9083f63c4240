package show

import (
	"strings"

	"handloom/api"
	"handloom/lex"
)

// part is a part of a program that can be written.
type part interface {
	// behind is what is written already, and the part's own tokens, shown, behind it.
	behind(written []string) []string
}

// token is one that stands for itself.
type token api.Token

func (t token) behind(written []string) []string {
	return append(written, lex.Show(api.Token(t)))
}

// row is parts, one behind the other.
type row []part

func (r row) behind(written []string) []string {
	for _, p := range r {
		written = p.behind(written)
	}
	return written
}

// clause is an expression that a word of the language begins.
type clause struct{ row }

// signed is an operator's sign between its two parts.
type signed struct {
	row
	rank int
}

// text is a part's tokens with one blank between each two.
func text(p part) string { return strings.Join(p.behind(nil), " ") }

// lines is the texts of parts, each ended as a line.
func lines(l []part) string {
	var b strings.Builder
	for _, p := range l {
		b.WriteString(text(p))
		b.WriteByte('\n')
	}
	return b.String()
}

// mark is a name, a word of the language or a sign: all of them are shown as their texts.
func mark(s string) part { return token{Kind: api.TkWord, Text: s} }

// number is one that may be below 0.
func number(n int64) part {
	if n < 0 {
		return row{mark("~"), number(-n)}
	}
	return token{Kind: api.TkNum, Num: n}
}

// count is a number that is never below 0.
func count(n int) part { return number(int64(n)) }

// each is what is made of each of a list's parts.
func each[T any](l []T, made func(T) part) row {
	var r row
	for _, x := range l {
		r = append(r, made(x))
	}
	return r
}

// list is parts with a sign between each two.
func list[T any](between string, l []T, made func(T) part) row {
	var r row
	for i, p := range each(l, made) {
		if i > 0 {
			r = append(r, mark(between))
		}
		r = append(r, p)
	}
	return r
}

// inside is a part in parentheses.
func inside(p part) part { return row{mark("("), p, mark(")")} }

// holds is a name, and in parentheses what it holds, if that is anything.
func holds[T any](name string, l []T, made func(T) part) part {
	if len(l) == 0 {
		return mark(name)
	}
	return row{mark(name), inside(list(",", l, made))}
}
