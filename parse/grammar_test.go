package parse_test

import (
	"slices"
	"strings"

	"handloom/api"
	"handloom/lex"
)

// The chapter's form as plain rules: a head, and the row that it may be. What is no head is a token.
const theForm = `Prog
Prog Prog Decl
Decl type low = Cons
Decl fun low ( Params ) : Type = Expr
Decl queue num
Decl timers num
Decl state Type cap num = Expr
Decl on low ( Param cap num ) = Expr
Cons Con
Cons Cons | Con
Con up
Con up of Fields
Fields Type
Fields Fields * Type
Params Param
Params Params , Param
Param low : Type
Type low
Type ( Type * Types )
Types Type
Types Types * Type
Expr let low = Expr in Expr
Expr if Expr then Expr else Expr
Expr match Expr with Arms end
Expr match Expr with | Arms end
Expr for num with low = Expr do Expr
Expr Cmp
Arms Arm
Arms Arms | Arm
Arm Pat -> Expr
Cmp Sum
Cmp Sum < Sum
Cmp Sum <= Sum
Cmp Sum == Sum
Sum Prod
Sum Sum + Prod
Sum Sum - Prod
Prod Atom
Prod Prod * Atom
Prod Prod / Atom
Prod Prod % Atom
Atom num
Atom ~ num
Atom text
Atom state
Atom low
Atom low ( Exprs )
Atom up
Atom up ( Exprs )
Atom ( Exprs )
Exprs Expr
Exprs Exprs , Expr
Pat _
Pat low
Pat num
Pat ~ num
Pat up
Pat up ( Pats )
Pat ( Pats )
Pats Pat
Pats Pats , Pat`

type rule struct {
	head string
	row  []string
}

type grammar struct {
	rules []rule
	of    map[string][]int // a head's rules
}

func newGrammar() *grammar {
	g := &grammar{of: map[string][]int{}}
	for i, line := range strings.Split(theForm, "\n") {
		parts := strings.Fields(line)
		g.rules = append(g.rules, rule{parts[0], parts[1:]})
		g.of[parts[0]] = append(g.of[parts[0]], i)
	}
	return g
}

// item is a rule, how much of its row stood there, and from which token on.
type item struct{ rule, dot, from int }

// set is what may stand at one place: which items, and which of them want a symbol there.
type set struct {
	items []item
	seen  map[item]bool
	want  map[string][]item
}

func newSet() *set { return &set{seen: map[item]bool{}, want: map[string][]item{}} }

func (s *set) add(i item) {
	if !s.seen[i] {
		s.seen[i] = true
		s.items = append(s.items, i)
	}
}

// fill adds all that follows from what is in the last of the sets.
func (g *grammar) fill(sets []*set) {
	s := sets[len(sets)-1]
	done := map[string]bool{} // heads that are here with an empty row: the program alone
	for at := 0; at < len(s.items); at++ {
		i := s.items[at]
		r := g.rules[i.rule]
		if i.dot == len(r.row) {
			if i.from == len(sets)-1 {
				done[r.head] = true
			}
			for _, back := range sets[i.from].want[r.head] {
				s.add(item{back.rule, back.dot + 1, back.from})
			}
			continue
		}
		next := r.row[i.dot]
		s.want[next] = append(s.want[next], i)
		if done[next] {
			s.add(item{i.rule, i.dot + 1, i.from})
		}
		for _, n := range g.of[next] {
			s.add(item{n, 0, len(sets) - 1})
		}
	}
}

// symbol is a token as the rules name it.
func symbol(t api.Token) string {
	switch t.Kind {
	case api.TkLow:
		return "low"
	case api.TkUp:
		return "up"
	case api.TkNum:
		return "num"
	case api.TkText:
		return "text"
	}
	return t.Text
}

// stands tells, of each token up to the first that can't stand there, at which places of which rules it stands; and whether all of them, the end among them, can be.
func (g *grammar) stands(start string, tokens []api.Token) (where [][]item, ok bool) {
	first := newSet()
	for _, n := range g.of[start] {
		first.add(item{n, 0, 0})
	}
	sets := []*set{first}
	for _, t := range tokens {
		g.fill(sets)
		last := sets[len(sets)-1]
		if t.Kind == api.TkEnd {
			return where, slices.ContainsFunc(last.items, func(i item) bool {
				return i.from == 0 && g.rules[i.rule].head == start && i.dot == len(g.rules[i.rule].row)
			})
		}
		scanned := last.want[symbol(t)]
		if len(scanned) == 0 {
			return where, false
		}
		where = append(where, scanned)
		next := newSet()
		for _, i := range scanned {
			next.add(item{i.rule, i.dot + 1, i.from})
		}
		sets = append(sets, next)
	}
	return where, false
}

// frame is a list that is open: how many parts began, how many may, where its name stands.
type frame struct {
	head        string
	count, most int
	name        api.Token
}

// judge goes through tokens that may stand where they are, and gathers what else is wrong, as it is met: of a token where it stands, of a call where it is closed.
type judge struct {
	g      *grammar
	frames []*frame
	begins *frame // whose next part begins at the next token
	words  map[string]int
	faults []api.Fault
}

func (j *judge) wrong(err api.Errno, t api.Token) {
	j.faults = append(j.faults, api.Fault{Err: err, At: t.At})
}

func (j *judge) open(head string, most int, name api.Token) {
	f := &frame{head: head, most: most, name: name}
	j.frames, j.begins = append(j.frames, f), f
}

// back closes lists up to the last one of that head.
func (j *judge) back(heads ...string) *frame {
	for {
		f := j.frames[len(j.frames)-1]
		if slices.Contains(heads, f.head) {
			return f
		}
		j.frames = j.frames[:len(j.frames)-1]
	}
}

func (j *judge) close(heads ...string) *frame {
	f := j.back(heads...)
	j.frames = j.frames[:len(j.frames)-1]
	return f
}

// is tells whether a token stands in a rule that begins so, as the symbol at that place of it.
func (j *judge) is(where []item, rule string, dot int) bool {
	return slices.ContainsFunc(where, func(i item) bool {
		r := j.g.rules[i.rule]
		return i.dot == dot && strings.HasPrefix(r.head+" "+strings.Join(r.row, " ")+" ", rule+" ")
	})
}

func (j *judge) token(t, behind, ahead api.Token, where []item) {
	if j.begins != nil && !(t.Text == "|" && t.Kind == api.TkSign) {
		j.begins.count++
		if j.begins.count > j.begins.most {
			j.wrong(api.ErrMany, t)
		}
		j.begins = nil
	}
	j.declaration(t, where)
	j.numbers(t, where)
	if j.is(where, "Atom low", 0) && slices.Contains([]string{"int", "bytes"}, t.Text) && symbol(behind) == "(" {
		j.wrong(api.ErrName, t)
	}
	j.lists(t, ahead, where)
}

func (j *judge) declaration(t api.Token, where []item) {
	for word, most := range map[string]int{"type": 32, "fun": 48, "on": 16, "queue": 1, "timers": 1, "state": 1} {
		if !j.is(where, "Decl "+word, 0) {
			continue
		}
		j.frames = nil
		j.words[word]++
		if j.words[word] > most {
			j.wrong(map[bool]api.Errno{true: api.ErrTwice, false: api.ErrMany}[most == 1], t)
		}
	}
	own := []string{"int", "bytes", "len", "at", "cat", "cut"}
	if j.is(where, "Decl type", 1) && slices.Contains(own[:2], t.Text) || j.is(where, "Decl fun", 1) && slices.Contains(own, t.Text) {
		j.wrong(api.ErrTwice, t)
	}
}

func (j *judge) numbers(t api.Token, where []item) {
	for _, r := range []struct {
		rule        string
		dot         int
		least, most int64
	}{{"Decl queue", 1, 1, 32}, {"Decl timers", 1, 0, 32}, {"Decl state", 3, 0, 256}, {"Decl on", 5, 0, 64}, {"Expr for", 1, 0, 1000}} {
		if j.is(where, r.rule, r.dot) && symbol(t) == "num" && (t.Num < r.least || t.Num > r.most) {
			j.wrong(api.ErrRange, t)
		}
	}
}

func (j *judge) lists(t, ahead api.Token, where []item) {
	is := func(rule string, dot int) bool { return j.is(where, rule, dot) }
	var none api.Token
	switch symbol(t) {
	case "=":
		if is("Decl type", 2) {
			j.open("Cons", 16, none)
		}
	case "of":
		j.open("Fields", 6, none)
	case "with":
		if is("Expr match", 2) {
			j.open("Arms", 32, none)
		}
	case "(":
		if is("Decl on", 2) {
			j.open("one", 1, none)
		} else if is("Atom low", 1) {
			j.open("list", 6, ahead)
		} else {
			j.open("list", 6, none)
		}
	case "|":
		if !is("Expr match", 3) {
			j.begins = j.back("Cons", "Arms")
		}
	case "*":
		if is("Fields", 1) || is("Types", 1) || is("Type", 2) {
			j.begins = j.back("Fields", "list")
		}
	case ",":
		j.begins = j.back("list")
	case ")":
		j.counted(j.close("list", "one"))
	case "end":
		j.close("Arms")
	}
}

func (j *judge) counted(f *frame) {
	want, ok := map[string]int{"len": 1, "at": 2, "cat": 2, "cut": 3}[f.name.Text]
	if ok && f.count != want {
		j.wrong(api.ErrCount, f.name)
	}
}

// wantFault is what is wrong with a text that is not too deep anywhere, by the chapter's words.
func (g *grammar) wantFault(start, src string) api.Fault {
	tokens, fault := lex.Lex(src)
	if fault.Err != api.OK {
		return fault
	}
	where, ok := g.stands(start, tokens)
	j := &judge{g: g, words: map[string]int{}}
	for i, w := range where {
		j.token(tokens[i], tokens[i+1], tokens[max(i-1, 0)], w)
	}
	if !ok {
		j.wrong(api.ErrWant, tokens[len(where)])
	}
	if start == "Prog" && (j.words["queue"] == 0 || j.words["state"] == 0) {
		j.wrong(api.ErrMiss, tokens[len(tokens)-1])
	}
	if len(j.faults) > 0 {
		return j.faults[0]
	}
	return api.Fault{}
}

// sentence is a row of tokens that the form allows, as the sower says; when it has so many, of rules that end soon.
func (g *grammar) sentence(s *sower, head string, most int) []string {
	var l []string
	var add func(symbol string)
	add = func(symbol string) {
		rules := g.of[symbol]
		if rules == nil {
			l = append(l, spell(s, symbol))
			return
		}
		n := pick(s, rules...)
		if len(l) >= most {
			n = g.least(symbol)
		}
		for _, part := range g.rules[n].row {
			add(part)
		}
	}
	add(head)
	return l
}

// least is a head's first rule: those are such that they lead to an end.
func (g *grammar) least(head string) int {
	switch head {
	case "Expr":
		return slices.IndexFunc(g.rules, func(r rule) bool { return r.head == "Expr" && r.row[0] == "Cmp" })
	case "Decl":
		return slices.IndexFunc(g.rules, func(r rule) bool { return r.head == "Decl" && r.row[0] == "queue" })
	}
	return g.of[head][0]
}

// spell is a token that is such a symbol.
func spell(s *sower, symbol string) string {
	switch symbol {
	case "low":
		return pick(s, "x", "f", "é1", "int", "bytes", "len", "at", "cat", "cut", "list")
	case "up":
		return pick(s, "Nil", "A", "Bé_2")
	case "num":
		return pick(s, "0", "1", "32", "33", "64", "65", "256", "257", "1000", "1001", "7")
	case "text":
		return pick(s, `""`, `"a"`, `"\n("`)
	}
	return symbol
}
