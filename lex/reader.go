package lex

import (
	"iter"

	"handloom/api"
	"handloom/runes"
)

// maxNum is the greatest number that can be written.
const maxNum = 1<<62 - 1

// none stands where a text has no more runes.
const none rune = -1

// reader goes through a text's runes: those ahead of at are read.
type reader struct {
	list []api.Rune
	at   int
	end  api.Pos
}

// ahead is a rune that is not read yet, the first one for 0; it stays so.
func (r *reader) ahead(count int) rune {
	if r.at+count < len(r.list) {
		return r.list[r.at+count].R
	}
	return none
}

// next reads a rune, if there is one.
func (r *reader) next() rune {
	c := r.ahead(0)
	if c != none {
		r.at++
	}
	return c
}

// while goes through the runes from here on, up to the first one that is not such; each is read when it is told, so a loop's body may read on behind it.
func (r *reader) while(such func(c rune) bool) iter.Seq[rune] {
	return func(yield func(rune) bool) {
		for r.ahead(0) != none && such(r.ahead(0)) {
			if !yield(r.next()) {
				return
			}
		}
	}
}

func inName(c rune) bool { return runes.Low(c) || runes.Up(c) || runes.Digit(c) || c == '_' }

func inText(c rune) bool { return c != '"' && c != '\n' }

func inRemark(c rune) bool { return c != '\n' }

func isPassed(c rune) bool { return runes.Blank(c) || c == '#' }

// pass reads blanks and remarks.
func (r *reader) pass() {
	for c := range r.while(isPassed) {
		if c == '#' {
			for range r.while(inRemark) {
			}
		}
	}
}

// place is where the next rune is, or the end.
func (r *reader) place() api.Pos {
	if r.at < len(r.list) {
		return r.list[r.at].At
	}
	return r.end
}

// token reads the next one; if something is wrong with it, its place is told all the same.
func (r *reader) token() (api.Token, api.Errno) {
	r.pass()
	t, err := api.Token{At: r.place()}, api.OK
	switch c := r.ahead(0); {
	case c == none:
		t.Kind = api.TkEnd
	case runes.Low(c) || runes.Up(c):
		t.Text, err = r.name()
		t.Kind = nameKind(t.Text, c)
	case runes.Digit(c):
		t.Kind = api.TkNum
		t.Num, err = r.number()
	case c == '"':
		t.Kind = api.TkText
		t.Bytes, err = r.text()
	default:
		t.Kind = api.TkSign
		t.Text, err = r.sign()
	}
	return t, err
}

// nameKind is the kind of a name that begins with a rune.
func nameKind(name string, first rune) int {
	switch {
	case Word(name):
		return api.TkWord
	case runes.Up(first):
		return api.TkUp
	}
	return api.TkLow
}

func (r *reader) name() (string, api.Errno) {
	var l []rune
	for c := range r.while(inName) {
		l = append(l, c)
	}
	if len(l) > api.MaxName {
		return "", api.ErrLong
	}
	return string(l), api.OK
}

func (r *reader) number() (int64, api.Errno) {
	n := int64(0)
	for c := range r.while(runes.Digit) {
		d := int64(c - '0')
		// asked ahead of the sum, which could wrap round
		if n > (maxNum-d)/10 {
			return 0, api.ErrNum
		}
		n = 10*n + d
	}
	return n, api.OK
}

// text reads one to its end, however long it is: that it can't be comes ahead of its being too long.
func (r *reader) text() ([]byte, api.Errno) {
	r.next()
	var l []byte
	for c := range r.while(inText) {
		if c != '\\' {
			l = append(l, runes.Put(c)...)
			continue
		}
		b, ok := r.escape()
		if !ok {
			return nil, api.ErrText
		}
		l = append(l, b)
	}
	if r.next() != '"' {
		return nil, api.ErrText
	}
	if len(l) > api.MaxBytes {
		return nil, api.ErrLong
	}
	return l, api.OK
}

// escape reads what is behind a \, and tells the byte that it stands for.
func (r *reader) escape() (byte, bool) {
	c := r.next()
	switch c {
	case 'x':
		high, low := half(r.next()), half(r.next())
		if high < 0 || low < 0 {
			break
		}
		c = high<<4 | low
		fallthrough
	case '"', '\\':
		return byte(c), true
	case 'n':
		return '\n', true
	case 't':
		return '\t', true
	}
	return 0, false
}

// half is the number of a digit of 16; below 0, if it is none.
func half(c rune) rune {
	zero := '0'
	switch {
	case 'a' <= c && c <= 'f':
		zero = 'a' - 10
		fallthrough
	case runes.Digit(c):
		return c - zero
	}
	return none
}

// sign reads the longest one.
func (r *reader) sign() (string, api.Errno) {
	text := signOf(r.ahead(0), r.ahead(1))
	if text == "" {
		return "", api.ErrChar
	}
	for range len(text) {
		r.next()
	}
	return text, api.OK
}

// signOf is the longest sign that two runes begin with; "", if there is none.
func signOf(first, second rune) string {
	switch first {
	case '-', '<', '=':
		switch both := string([]rune{first, second}); both {
		case "->", "<=", "==":
			return both
		}
		fallthrough
	case '(', ')', ',', '|', ':', '+', '*', '/', '%', '_', '~':
		return string(first)
	}
	return ""
}
