package parse

import (
	"handloom/api"
	"handloom/lex"
)

// reader goes through a text's tokens, of which the last one is the end: that one is never taken. What can't go on is thrown as a fault.
type reader struct {
	tokens []api.Token // those that are not taken yet
	full   bool        // the part that begins here is one too many
}

// read is what a part of the form makes of all of a text; here each fault that is thrown is caught.
func read[T any](src string, part func(r *reader) T) (made T, fault api.Fault) {
	defer func() {
		thrown := recover()
		if thrown == nil {
			return
		}
		f, ok := thrown.(api.Fault)
		if !ok {
			panic(thrown)
		}
		var none T
		made, fault = none, f
	}()
	tokens, fault := lex.Lex(src)
	if fault.Err != api.OK {
		return made, fault
	}
	r := reader{tokens: tokens}
	made = part(&r)
	r.wantEnd()
	return made, api.Fault{}
}

func (r *reader) wantEnd() {
	if !r.ended() {
		panic(r.unwanted())
	}
}

func (r *reader) next() api.Token { return r.tokens[0] }

func (r *reader) ended() bool { return r.next().Kind == api.TkEnd }

// unwanted is the fault of a token where another one must stand.
func (r *reader) unwanted() api.Fault { return api.Fault{Err: api.ErrWant, At: r.next().At} }

// take goes on by a token that may stand here: so a part that is one too many is told where it begins, and what is no part never is.
func (r *reader) take() api.Token {
	t := r.next()
	if r.full {
		panic(api.Fault{Err: api.ErrMany, At: t.At})
	}
	r.tokens = r.tokens[1:]
	return t
}

// stands tells whether the next token is that sign, or that word of the language.
func (r *reader) stands(text string) bool { return r.sign() == text || r.word() == text }

// sign is the next token's text, if it is a sign, else "".
func (r *reader) sign() string { return r.textOf(api.TkSign) }

// word is the next token's text, if it is a word of the language, else "".
func (r *reader) word() string { return r.textOf(api.TkWord) }

func (r *reader) textOf(kind int) string {
	if t := r.next(); t.Kind == kind {
		return t.Text
	}
	return ""
}

// skip takes a sign or a word, if it stands here.
func (r *reader) skip(text string) bool {
	ok := r.stands(text)
	if ok {
		r.take()
	}
	return ok
}

func (r *reader) want(text string) {
	if !r.skip(text) {
		panic(r.unwanted())
	}
}

// kind takes a token of a kind that has no other ones in its place.
func (r *reader) kind(kind int) api.Token {
	if r.next().Kind != kind {
		panic(r.unwanted())
	}
	return r.take()
}

func (r *reader) low() string { return r.kind(api.TkLow).Text }

// within takes a number that must be from least to most.
func (r *reader) within(least, most int64) int64 {
	t := r.kind(api.TkNum)
	if t.Num < least || t.Num > most {
		panic(api.Fault{Err: api.ErrRange, At: t.At})
	}
	return t.Num
}

// many is such a number as an int.
func (r *reader) many(least, most int64) int { return int(r.within(least, most)) }

// number takes one that may be below 0.
func (r *reader) number() int64 {
	if r.skip("~") {
		return -r.kind(api.TkNum).Num
	}
	return r.kind(api.TkNum).Num
}

// list takes parts, at most so many, with a sign between each two.
func list[T any](r *reader, between string, most int, part func() T) []T {
	var l []T
	for {
		r.full = len(l) == most
		l = append(l, part())
		if !r.skip(between) {
			return l
		}
	}
}

// inside takes parts in parentheses, at most so many.
func inside[T any](r *reader, between string, most int, part func() T) []T {
	r.want("(")
	l := list(r, between, most, part)
	r.want(")")
	return l
}
