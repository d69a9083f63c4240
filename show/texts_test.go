package show_test

import (
	"slices"
	"strings"
	"testing"

	"handloom/api"
	"handloom/ast"
	"handloom/parse"
	"handloom/show"
)

// Chapter 5's form as plain rules: a head, and the row that it may be; of several the first one comes to an end. What is no head is a token, or stands for some. A call has as many parts as it wants.
const theForm = `Data type data = Con
Data type data = Con | Con | Con
Con up
Con up of Type
Con up of Type * Type * Type
Fun fun low ( Param ) : Type = Expr
Fun fun low ( Param , Param , Param ) : Type = Expr
Queue queue some
Timers timers some
Timers timers 0
State state Type cap some = Expr
On on name ( Param cap some ) = Expr
Param name : Type
Type int
Type bytes
Type data
Type ( Type * Type )
Type ( Type * Type * Type )
Expr Cmp
Expr let name = Expr in Expr
Expr if Expr then Expr else Expr
Expr match Expr with Arms end
Expr match Expr with | Arms end
Expr for some with name = Expr do Expr
Arms Pat -> Expr
Arms Pat -> Expr | Arms
Cmp Sum
Cmp Sum < Sum
Cmp Sum <= Sum
Cmp Sum == Sum
Sum Prod
Sum Sum + Prod
Sum Sum - Prod
Prod Atom
Prod Prod * Atom
Prod Prod / Atom
Prod Prod % Atom
Atom num
Atom ~ num
Atom text
Atom state
Atom name
Atom low ( Expr )
Atom low ( Expr , Expr , Expr )
Atom len ( Expr )
Atom at ( Expr , Expr )
Atom cat ( Expr , Expr )
Atom cut ( Expr , Expr , Expr )
Atom up
Atom up ( Expr )
Atom up ( Expr , Expr )
Atom ( Expr )
Atom ( Expr )
Atom ( Expr , Expr )
Pat _
Pat name
Pat num
Pat ~ num
Pat up
Pat up ( Pat )
Pat up ( Pat , Pat )
Pat ( Pat )
Pat ( Pat , Pat , Pat )`

func formRules() map[string][][]string {
	rules := map[string][][]string{}
	for _, line := range strings.Split(theForm, "\n") {
		l := strings.Fields(line)
		rules[l[0]] = append(rules[l[0]], l[1:])
	}
	return rules
}

// sentence is a row of tokens that a head may be, as the sower says; when it has so many, it comes to an end.
func sentence(s *sower, rules map[string][][]string, head string, most int) []string {
	var l []string
	var add func(symbol string)
	add = func(symbol string) {
		rows := rules[symbol]
		if rows == nil {
			l = append(l, spell(s, symbol))
			return
		}
		row := rows[s.below(len(rows))]
		if len(l) >= most {
			row = rows[0]
		}
		for _, part := range row {
			add(part)
		}
	}
	add(head)
	return l
}

// spell is a token for those that may be several.
func spell(s *sower, symbol string) string {
	switch symbol {
	case "name":
		return s.aName()
	case "low":
		return s.funName()
	case "data":
		return s.dataName()
	case "up":
		return s.great()
	case "some":
		return pick(s, "1", "2", "032", "7", "0001", "32")
	case "num":
		return pick(s, "0", "00", "12", "007", "4611686018427387903")
	case "text":
		return pick(s, `""`, `"a"`, `"\n\t\"\\"`, `"\x41\xff\x22\x5c"`, `"é # |"`, "\"\t\"", strings.Repeat("\U0001f600", 3), `"'"`)
	}
	return symbol
}

// laid is tokens with gaps of any kind between them, or none where they need none.
func laid(s *sower, tokens []string) string {
	var b strings.Builder
	for _, token := range tokens {
		if s.below(3) > 0 || !strings.Contains("(),", token) {
			b.WriteString(pick(s, " ", " ", "\n", "\t", "  ", " #x )\n", "\r", "\n\n"))
		}
		b.WriteString(token)
	}
	b.WriteString(pick(s, "", " ", "\n", "#"))
	return b.String()
}

// declared is the tokens of a program's declarations, in any order.
func declared(s *sower, rules map[string][][]string, most int) []string {
	heads := []string{"Queue", "State"}
	for _, head := range []string{"Data", "Fun", "On"} {
		heads = append(heads, slices.Repeat([]string{head}, s.below(4))...)
	}
	if s.below(2) == 0 {
		heads = append(heads, "Timers")
	}
	for i := range heads {
		j := s.below(i + 1)
		heads[i], heads[j] = heads[j], heads[i]
	}
	var l []string
	for _, head := range heads {
		l = append(l, sentence(s, rules, head, most)...)
	}
	return l
}

// settles wants what is read of a text to be shown as one that is read as it and shown as itself; it tells whether the text is read.
func settles[T any](t *testing.T, src string, read func(string) (T, api.Fault), told func(T) string, same func(a, b T) bool) bool {
	t.Helper()
	first, fault := read(src)
	if fault != (api.Fault{}) {
		return false
	}
	once := told(first)
	again, fault := read(once)
	if tooLong(once) {
		return false
	}
	if fault != (api.Fault{}) || !same(first, again) {
		t.Fatalf("%q is shown as %q, which is read as something else: fault %v", short(src), short(once), fault)
	}
	if twice := told(again); twice != once {
		t.Fatalf("%q is shown as %q, that as %q", short(src), short(once), short(twice))
	}
	return true
}

func sameType(a, b api.Type) bool { return ast.Same(api.Prog{State: a}, api.Prog{State: b}) }

// P6.3: what is read, printed, read and printed again is the same text
func TestTextsOfAnyForm(t *testing.T) {
	s := sower(5783321)
	rules := formRules()
	read := 0
	count := func(ok bool) {
		if ok {
			read++
		}
	}
	for i := range 1500 {
		most := 1 + i%90
		count(settles(t, laid(&s, sentence(&s, rules, "Expr", most)), parse.Expr, show.Expr, ast.SameExpr))
		count(settles(t, laid(&s, sentence(&s, rules, "Type", most)), parse.Type, show.Type, sameType))
		count(settles(t, laid(&s, declared(&s, rules, most)), parse.Parse, show.Prog, ast.Same))
	}
	if read < 3500 {
		t.Errorf("of 4500 texts %d are read", read)
	}
}

// P6.3: what may be written in several ways is shown in one
func TestTextsByHand(t *testing.T) {
	for _, r := range []struct{ src, want string }{
		{"1+2*x", "1 + 2 * x"}, {"(((1)+(2)))*x", "( 1 + 2 ) * x"}, {"(1*2)+3", "1 * 2 + 3"}, {"1-(2-3)-4", "1 - ( 2 - 3 ) - 4"},
		{"(a<b)==(c<=d)", "( a < b ) == ( c <= d )"}, {"~007", "~ 7"}, {"~0", "0"}, {"(state)", "state"}, {"\"\\n\\x41\"", `"\x0aA"`},
		{"match x with | A(_) -> (1) | (y) -> f((y)) end", "match x with A ( _ ) -> 1 | y -> f ( y ) end"},
		{"# a remark\nlet x=1\nin # another\n\tx", "let x = 1 in x"}, {"(let x = 1 in x) + 1", "( let x = 1 in x ) + 1"}, {"1 + (f(2))", "1 + f ( 2 )"},
		{"len((((x))))", "len ( x )"}, {"((1, 2))", "( 1 , 2 )"}, {"(if (a) then (b) else (c))", "if a then b else c"},
		{"for 010 with i = (0) do (i + 1)", "for 10 with i = 0 do i + 1"},
	} {
		e, fault := parse.Expr(r.src)
		if got := show.Expr(e); fault != (api.Fault{}) || got != r.want {
			t.Errorf("%q is shown as %q, want %q: fault %v", r.src, got, r.want, fault)
		}
	}
	src := "on a(x:int cap 1)=x state(int*t)cap 2=y timers 0 queue 9 fun f(x:t):t=x type t=A|B of int fun g(x:t):t=x type u=C on b(x:int cap 1)=x"
	want := "type t = A | B of int\ntype u = C\nfun f ( x : t ) : t = x\nfun g ( x : t ) : t = x\nqueue 9\ntimers 0\nstate ( int * t ) cap 2 = y\non a ( x : int cap 1 ) = x\non b ( x : int cap 1 ) = x\n"
	// a line for timers stands there, whether the text that was read has one or not
	for _, src := range []string{src, strings.Replace(src, "timers 0 ", "", 1)} {
		p, fault := parse.Parse(src)
		if got := show.Prog(p); fault != (api.Fault{}) || got != want {
			t.Errorf("%q is shown as %q, want %q: fault %v", src, got, want, fault)
		}
	}
}
