package eval_test

import (
	"math/big"
	"slices"
	"strconv"

	"handloom/api"
	"handloom/ast"
	"handloom/cover"
	"handloom/halt"
	"handloom/ty"
	"handloom/value"
)

// The chapter's words once more: another reading than the program's, to hold it against. Names are replaced by what they have; all that is gone through is written down, and what it costs is added up when all is said.

// visit is an expression that was gone through, at how many slots, and what it is worth.
type visit struct {
	e     api.Expr
	slots int
	v     api.Value
}

type reading struct {
	p     api.Prog
	has   []api.Value // what names have that stand in for others, by their numbers
	seen  []visit
	steps int
}

// spent is thrown where more is gone through than is counted.
type spent struct{}

// named is a name that has a value: none that is fit begins so.
func (r *reading) named(v api.Value) api.Expr {
	r.has = append(r.has, v)
	return variable("#" + strconv.Itoa(len(r.has)-1))
}

// put is an expression, another one standing for a name in it, but where that is given anew.
func put(e api.Expr, name string, other api.Expr) api.Expr {
	if e.Kind == api.ExVar && e.Name == name {
		return other
	}
	kids, arms := e.Kids, e.Arms
	e.Kids, e.Arms = nil, nil
	for at, kid := range kids {
		if anew := at == 1 && (e.Kind == api.ExLet || e.Kind == api.ExFor) && e.Name == name; !anew {
			kid = put(kid, name, other)
		}
		e.Kids = append(e.Kids, kid)
	}
	for _, a := range arms {
		if !slices.Contains(ast.Free(match(num(0), arm(a.Pat, variable(name)))), name) {
			e.Arms = append(e.Arms, a)
			continue
		}
		e.Arms = append(e.Arms, arm(a.Pat, put(a.Body, name, other)))
	}
	return e
}

// ownPats is how many patterns stand in the arms of an expression itself.
func ownPats(e api.Expr) int {
	bare := match(num(0))
	for _, a := range e.Arms {
		bare.Arms = append(bare.Arms, arm(a.Pat, num(0)))
	}
	_, pats := ast.Nodes(bare)
	return pats
}

func stepsOf(e api.Expr) int {
	switch e.Kind {
	case api.ExMatch:
		return 4 + 2 + 8*len(e.Arms) + 8*ownPats(e)
	case api.ExFor:
		return 4 + 2*2 + 6*int(e.Num)
	}
	return 4 + 2*len(e.Kids)
}

func slotsOf(s visit) int {
	if s.e.Kind == api.ExMatch {
		return s.slots + 2*ownPats(s.e) + 3
	}
	return s.slots + 2*len(s.e.Kids) + 1
}

func wordsOf(s visit) int {
	switch {
	case s.e.Kind == api.ExTuple, s.e.Kind == api.ExCon && len(s.e.Kids) > 0:
		return 2 + len(s.e.Kids)
	case s.e.Kind == api.ExBytes, s.e.Kind == api.ExOp && s.e.Num >= api.OpCat:
		words := 2
		for at := 0; at < len(s.v.Bytes); at += 8 {
			words++
		}
		return words
	}
	return 0
}

func (r *reading) cost() api.Cost {
	var c api.Cost
	for _, s := range r.seen {
		c.Steps += stepsOf(s.e)
		c.Words += wordsOf(s)
		c.Peak = max(c.Peak, slotsOf(s))
	}
	return c
}

func (r *reading) say(e api.Expr, slots int) api.Value {
	at := len(r.seen)
	r.seen = append(r.seen, visit{e: e, slots: slots})
	if r.steps += stepsOf(e); r.steps > api.MaxFuel {
		panic(spent{})
	}
	v := r.worth(e, slots)
	r.seen[at].v = v
	return v
}

func (r *reading) worth(e api.Expr, slots int) api.Value {
	switch e.Kind {
	case api.ExInt:
		return numVal(e.Num)
	case api.ExBytes:
		return api.Value{Kind: api.VaBytes, Bytes: e.Bytes}
	case api.ExVar:
		at, _ := strconv.Atoi(e.Name[1:])
		return r.has[at]
	case api.ExLet:
		v := r.say(e.Kids[0], slots)
		return r.say(put(e.Kids[1], e.Name, r.named(v)), slots+1)
	case api.ExIf:
		if value.Same(r.say(e.Kids[0], slots), conVal("True")) {
			return r.say(e.Kids[1], slots)
		}
		return r.say(e.Kids[2], slots)
	case api.ExMatch:
		v := r.say(e.Kids[0], slots)
		for _, a := range e.Arms {
			if names, ok := cover.Takes(a.Pat, v); ok {
				return r.body(a.Body, names, slots+ownPats(e)+1)
			}
		}
		panic("no arm takes " + value.Text(v))
	case api.ExFor:
		v := r.say(e.Kids[0], slots)
		for range e.Num {
			v = r.say(put(e.Kids[1], e.Name, r.named(v)), slots+2)
		}
		return v
	}
	var kids []api.Value
	for at, kid := range e.Kids {
		kids = append(kids, r.say(kid, slots+at))
	}
	return r.of(e, kids, slots)
}

// of is what an expression is worth whose Kids are worth something.
func (r *reading) of(e api.Expr, kids []api.Value, slots int) api.Value {
	switch e.Kind {
	case api.ExCon:
		return conVal(e.Name, kids...)
	case api.ExTuple:
		return rowVal(kids...)
	case api.ExCall:
		at := slices.IndexFunc(r.p.Funs, func(f api.Fun) bool { return f.Name == e.Name })
		f := r.p.Funs[at]
		return r.body(f.Body, binds(f.Params, kids), slots+2*len(kids))
	}
	v, _ := wantDo(e.Num, kids)
	return v
}

func (r *reading) body(e api.Expr, names []api.Bind, slots int) api.Value {
	for _, b := range names {
		e = put(e, b.Name, r.named(b.Value))
	}
	return r.say(e, slots)
}

func binds(params []api.Param, args []api.Value) []api.Bind {
	var l []api.Bind
	for at, p := range params {
		l = append(l, api.Bind{Name: p.Name, Value: args[at]})
	}
	return l
}

// answer is what each of the three calls tells.
type answer struct {
	v    api.Value
	cost api.Cost
	err  api.Errno
}

func answered(v api.Value, c api.Cost, err api.Errno) answer { return answer{v, c, err} }

func failed(err api.Errno) answer { return answer{err: err} }

// wantBody is what a body tells whose names have values, if there are any such.
func wantBody(p api.Prog, params []api.Param, e api.Expr, args []api.Value, fuel int) (a answer) {
	for at, param := range params {
		if !value.Of(ty.Datas(p), args[at], param.Type) {
			return failed(api.ErrType)
		}
	}
	defer func() {
		x := recover()
		if _, is := x.(spent); x != nil && !is {
			panic(x)
		}
		if x != nil {
			a = failed(api.ErrFuel)
		}
	}()
	r := reading{p: p}
	v := r.body(e, binds(params, args), len(params))
	if c := r.cost(); c.Steps <= fuel {
		return answer{trim(v), c, api.OK}
	}
	return failed(api.ErrFuel)
}

func wantCall(p api.Prog, name string, args []api.Value, fuel int) answer {
	if halt.Check(p) != (api.Fault{}) {
		return failed(api.ErrForm)
	}
	for _, f := range p.Funs {
		if f.Name != name {
			continue
		}
		if len(args) != len(f.Params) {
			return failed(api.ErrCount)
		}
		return wantBody(p, f.Params, f.Body, args, fuel)
	}
	return failed(api.ErrNone)
}

func wantInit(p api.Prog, fuel int) answer {
	if halt.Check(p) != (api.Fault{}) {
		return failed(api.ErrForm)
	}
	return wantBody(p, nil, p.Init, nil, fuel)
}

func wantHand(p api.Prog, name string, state, v api.Value, fuel int) answer {
	if halt.Check(p) != (api.Fault{}) {
		return failed(api.ErrForm)
	}
	for _, h := range p.Hands {
		if h.Name == name {
			return wantBody(p, []api.Param{param("state", p.State), h.Param}, h.Body, []api.Value{state, v}, fuel)
		}
	}
	return failed(api.ErrNone)
}

// trim is a value whose empty lists are none.
func trim(v api.Value) api.Value {
	v.Bytes = append([]byte(nil), v.Bytes...)
	kids := v.Kids
	v.Kids = nil
	for _, kid := range kids {
		v.Kids = append(v.Kids, trim(kid))
	}
	return v
}

// operands says what each operator wants: n for a number, b for a text.
var operands = []string{"nn", "nn", "nn", "nn", "nn", "nn", "nn", "nn", "b", "bn", "bb", "bnn"}

func suits(v api.Value, want byte) bool {
	if v.Name != "" || len(v.Kids) > 0 {
		return false
	}
	if want == 'n' {
		return v.Kind == api.VaInt && len(v.Bytes) == 0
	}
	return v.Kind == api.VaBytes && v.Num == 0 && len(v.Bytes) <= 64
}

// wrap is the number of 63 bits that is a multiple of 2^63 away.
func wrap(n *big.Int) *big.Int {
	half, all := new(big.Int).Lsh(big.NewInt(1), 62), new(big.Int).Lsh(big.NewInt(1), 63)
	n = new(big.Int).Add(n, half)
	return n.Sub(n.Mod(n, all), half)
}

func wantDo(op int64, l []api.Value) (api.Value, bool) {
	if op < 0 || op >= int64(len(operands)) || len(l) != len(operands[op]) {
		return api.Value{}, false
	}
	var texts []string
	var numbers []*big.Int
	for at, v := range l {
		if !suits(v, operands[op][at]) {
			return api.Value{}, false
		}
		if v.Kind == api.VaInt {
			numbers = append(numbers, wrap(big.NewInt(v.Num)))
		} else {
			texts = append(texts, string(v.Bytes))
		}
	}
	if op >= api.OpLen {
		return textDo(op, texts, numbers), true
	}
	return numberDo(op, numbers[0], numbers[1]), true
}

func numberDo(op int64, a, b *big.Int) api.Value {
	made := new(big.Int)
	switch op {
	case api.OpAdd:
		made.Add(a, b)
	case api.OpSub:
		made.Sub(a, b)
	case api.OpMul:
		made.Mul(a, b)
	case api.OpDiv:
		if b.Sign() != 0 {
			made.Quo(a, b)
		}
	case api.OpMod:
		made.Set(a)
		if b.Sign() != 0 {
			made.Rem(a, b)
		}
	default:
		holds := []bool{a.Cmp(b) < 0, a.Cmp(b) <= 0, a.Cmp(b) == 0}
		if holds[op-api.OpLt] {
			return conVal("True")
		}
		return conVal("False")
	}
	return numVal(wrap(made).Int64())
}

func textDo(op int64, texts []string, numbers []*big.Int) api.Value {
	var made []byte
	take := func(c byte) {
		if len(made) < 64 {
			made = append(made, c)
		}
	}
	for at, c := range []byte(texts[0]) {
		place := big.NewInt(int64(at))
		switch op {
		case api.OpAt:
			if place.Cmp(numbers[0]) == 0 {
				return numVal(int64(c))
			}
		case api.OpCut:
			if place.Cmp(numbers[0]) >= 0 && big.NewInt(int64(len(made))).Cmp(numbers[1]) < 0 {
				take(c)
			}
		default:
			take(c)
		}
	}
	switch op {
	case api.OpLen:
		return numVal(int64(len(made)))
	case api.OpAt:
		return numVal(-1)
	case api.OpCat:
		for _, c := range []byte(texts[1]) {
			take(c)
		}
	}
	return api.Value{Kind: api.VaBytes, Bytes: made}
}
