package parse_test

import (
	"strconv"
	"strings"

	"handloom/api"
	"handloom/lex"
)

// writer writes trees as texts that are read as them, and tells them with the places at which it wrote them, and which of their parts are wrong as a whole. What may be left out, or stand there more than once, it writes as its sower says.
type writer struct {
	s      *sower
	out    strings.Builder
	at     api.Pos
	wide   bool      // blanks and remarks stand between all tokens
	bad    []badPart // in the order in which they ended
	places []api.Pos // where each token was written
}

// badPart is what is wrong with a part of which all is written, and where its text ends.
type badPart struct {
	end   int
	fault api.Fault
}

func (w *writer) wrong(err api.Errno, at api.Pos) {
	w.bad = append(w.bad, badPart{w.out.Len(), api.Fault{Err: err, At: at}})
}

// measure tells of a part of which all is written whether it is too deep.
func (w *writer) measure(depth int, at api.Pos) {
	if depth > api.MaxDepth {
		w.wrong(api.ErrDeep, at)
	}
}

func newWriter(s *sower) *writer { return &writer{s: s, at: api.Pos{Line: 1, Col: 1}} }

func (w *writer) maybe() bool { return w.s != nil && w.s.below(5) == 0 }

func (w *writer) raw(s string) {
	w.out.WriteString(s)
	for _, c := range s {
		w.at.Col++
		if c == '\n' {
			w.at = api.Pos{Line: w.at.Line + 1, Col: 1}
		}
	}
}

func (w *writer) gap() {
	switch {
	case w.s == nil:
		w.raw(" ")
	case w.wide:
		w.raw(pick(w.s, "\n\n", " \t ", " # é \" if\n", "\r#\n#\n", "#@\\\n\t", "    "))
	default:
		w.raw(pick(w.s, " ", " ", "\n", "\t", "  ", " #x\n"))
	}
}

// put writes a token, and tells its place.
func (w *writer) put(token string) api.Pos {
	// parentheses and commas are tokens of their own, whatever stands by them
	if !w.maybe() || !strings.Contains("(),", token) {
		w.gap()
	}
	at := w.at
	w.places = append(w.places, at)
	w.raw(token)
	return at
}

func (w *writer) num(n int64) api.Pos {
	if n > 0 || n == 0 && !w.maybe() {
		return w.put(strconv.FormatInt(n, 10))
	}
	at := w.put("~")
	w.put(strings.TrimPrefix(strconv.FormatInt(n, 10), "-"))
	return at
}

func written[T any](w *writer, between string, l []T, part func(T) T) []T {
	var made []T
	for i, x := range l {
		if i > 0 {
			w.put(between)
		}
		made = append(made, part(x))
	}
	return made
}

func (w *writer) typ(t api.Type) api.Type {
	switch t.Kind {
	case api.TyInt:
		w.put("int")
	case api.TyBytes:
		w.put("bytes")
	case api.TyData:
		w.put(t.Name)
	case api.TyTuple:
		open := w.peek()
		w.put("(")
		written(w, "*", t.Parts, w.typ)
		w.put(")")
		w.measure(typeDepth(t), open())
	}
	return t
}

func (w *writer) pats(l []api.Pat) []api.Pat {
	w.put("(")
	l = written(w, ",", l, w.pat)
	w.put(")")
	return l
}

func (w *writer) pat(p api.Pat) api.Pat {
	if w.maybe() {
		return w.pats([]api.Pat{p})[0]
	}
	switch p.Kind {
	case api.PtAny:
		p.At = w.put("_")
	case api.PtVar:
		p.At = w.put(p.Name)
	case api.PtInt:
		p.At = w.num(p.Num)
	case api.PtCon:
		p.At = w.put(p.Name)
		if p.Kids != nil {
			p.Kids = w.pats(p.Kids)
		}
	case api.PtTuple:
		open := w.peek()
		p.Kids = w.pats(p.Kids)
		p.At = open()
	}
	w.measure(patDepth(p), p.At)
	return p
}

// peek tells, later on, where the next token was written.
func (w *writer) peek() func() api.Pos {
	next := len(w.places)
	return func() api.Pos { return w.places[next] }
}

func (w *writer) exprs(l []api.Expr) []api.Expr {
	w.put("(")
	l = written(w, ",", l, func(e api.Expr) api.Expr { return w.expr(e, 0) })
	w.put(")")
	return l
}

// rankOf is how tight an expression holds together: 0 of those that a word begins, 4 of those that none can part.
func rankOf(e api.Expr) int {
	switch e.Kind {
	case api.ExLet, api.ExIf, api.ExMatch, api.ExFor:
		return 0
	case api.ExOp:
		return []int{2, 2, 3, 3, 3, 1, 1, 1, 4, 4, 4, 4}[e.Num]
	}
	return 4
}

// expr writes an expression where one of at least that rank must stand.
func (w *writer) expr(e api.Expr, rank int) api.Expr {
	if rankOf(e) < rank || w.maybe() {
		return w.exprs([]api.Expr{e})[0]
	}
	e = w.bare(e)
	if e.Kind == api.ExOp && len(e.Kids) != wantOperands(e.Num) {
		w.wrong(api.ErrCount, e.At)
	}
	w.measure(exprDepth(e), e.At)
	return e
}

// bare writes an expression without parentheses round it.
func (w *writer) bare(e api.Expr) api.Expr {
	switch e.Kind {
	case api.ExInt:
		e.At = w.num(e.Num)
	case api.ExBytes:
		e.At = w.put(lex.Show(api.Token{Kind: api.TkText, Bytes: e.Bytes}))
	case api.ExVar:
		e.At = w.put(e.Name)
	case api.ExCon, api.ExCall:
		e.At = w.put(e.Name)
		if e.Kids != nil {
			e.Kids = w.exprs(e.Kids)
		}
	case api.ExTuple:
		open := w.peek()
		e.Kids = w.exprs(e.Kids)
		e.At = open()
	case api.ExOp:
		return w.op(e)
	default:
		return w.words(e)
	}
	return e
}

func (w *writer) op(e api.Expr) api.Expr {
	sign := []string{"+", "-", "*", "/", "%", "<", "<=", "==", "len", "at", "cat", "cut"}[e.Num]
	left, right := rankOf(e), rankOf(e)+1
	switch rankOf(e) {
	case 4:
		e.At = w.put(sign)
		e.Kids = w.exprs(e.Kids)
		return e
	case 1:
		left = 2
	}
	a := w.expr(e.Kids[0], left)
	e.At = w.put(sign)
	e.Kids = []api.Expr{a, w.expr(e.Kids[1], right)}
	return e
}

// words writes an expression that a word begins.
func (w *writer) words(e api.Expr) api.Expr {
	var kids []api.Expr
	kid := func(word string) {
		w.put(word)
		kids = append(kids, w.expr(e.Kids[len(kids)], 0))
	}
	switch e.Kind {
	case api.ExLet:
		e.At = w.put("let")
		w.put(e.Name)
		kid("=")
		kid("in")
	case api.ExIf:
		open := w.peek()
		kid("if")
		kid("then")
		kid("else")
		e.At = open()
	case api.ExMatch:
		open := w.peek()
		kid("match")
		w.put("with")
		if w.maybe() {
			w.put("|")
		}
		e.Arms = written(w, "|", e.Arms, w.arm)
		w.put("end")
		e.At = open()
	case api.ExFor:
		e.At = w.put("for")
		w.put(strconv.FormatInt(e.Num, 10))
		w.put("with")
		w.put(e.Name)
		kid("=")
		kid("do")
	}
	e.Kids = kids
	return e
}

func (w *writer) arm(a api.Arm) api.Arm {
	a.Pat = w.pat(a.Pat)
	w.put("->")
	a.Body = w.expr(a.Body, 0)
	return a
}

func (w *writer) con(c api.Con) api.Con {
	w.put(c.Name)
	if c.Fields != nil {
		w.put("of")
		written(w, "*", c.Fields, w.typ)
	}
	return c
}

func (w *writer) param(p api.Param) api.Param {
	w.put(p.Name)
	w.put(":")
	w.typ(p.Type)
	return p
}

func (w *writer) body(e api.Expr) api.Expr {
	w.put("=")
	return w.expr(e, 0)
}

func (w *writer) data(d api.Data) api.Data {
	d.At = w.put("type")
	w.put(d.Name)
	w.put("=")
	written(w, "|", d.Cons, w.con)
	return d
}

func (w *writer) fun(f api.Fun) api.Fun {
	f.At = w.put("fun")
	w.put(f.Name)
	w.put("(")
	written(w, ",", f.Params, w.param)
	w.put(")")
	w.put(":")
	w.typ(f.Result)
	f.Body = w.body(f.Body)
	return f
}

func (w *writer) hand(h api.Hand) api.Hand {
	h.At = w.put("on")
	w.put(h.Name)
	w.put("(")
	w.param(h.Param)
	w.put("cap")
	w.put(strconv.Itoa(h.Cap))
	w.put(")")
	h.Body = w.body(h.Body)
	return h
}

func (w *writer) state(p *api.Prog) {
	w.put("state")
	w.typ(p.State)
	w.put("cap")
	w.put(strconv.Itoa(p.Cap))
	p.Init = w.body(p.Init)
}

// prog writes a program's parts in any order in which those of one kind stay as they are.
func (w *writer) prog(p api.Prog) api.Prog {
	var todo []func()
	add := func(part func()) { todo = append(todo, part) }
	last := map[string]int{}
	mix := func(kind string, part func()) {
		add(part)
		at := len(todo) - 1
		for at > last[kind] && w.s != nil && w.s.below(2) == 0 {
			todo[at-1], todo[at] = todo[at], todo[at-1]
			at--
		}
		for k := range last {
			if last[k] > at {
				last[k]++
			}
		}
		last[kind] = at + 1
	}
	for i := range p.Datas {
		mix("type", func() { p.Datas[i] = w.data(p.Datas[i]) })
	}
	for i := range p.Funs {
		mix("fun", func() { p.Funs[i] = w.fun(p.Funs[i]) })
	}
	mix("queue", func() { w.put("queue"); w.put(strconv.Itoa(p.Queue)) })
	if p.Timers > 0 || w.maybe() {
		mix("timers", func() { w.put("timers"); w.put(strconv.Itoa(p.Timers)) })
	}
	mix("state", func() { w.state(&p) })
	for i := range p.Hands {
		mix("on", func() { p.Hands[i] = w.hand(p.Hands[i]) })
	}
	for _, part := range todo {
		part()
	}
	return p
}
