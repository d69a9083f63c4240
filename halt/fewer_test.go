package halt_test

import (
	"slices"
	"strconv"
	"testing"

	"handloom/api"
	"handloom/cover"
	"handloom/halt"
	"handloom/ty"
	"handloom/value"
	"handloom/word"
)

// run says what expressions are worth, and watches the calls of one function.
type run struct {
	p       api.Prog
	watched string
	by      int   // the parameter by which it goes down
	made    int   // how often it was called
	open    []int // with how many words there, of those that are under way
	stuck   bool  // it was called with as many words as around it, or with more
	fuel    int
}

// spent is thrown where a run takes too long.
type spent struct{}

func with(env []api.Bind, more ...api.Bind) []api.Bind { return slices.Concat(env, more) }

func (r *run) eval(e api.Expr, env []api.Bind) api.Value {
	if r.fuel--; r.fuel < 0 {
		panic(spent{})
	}
	switch e.Kind {
	case api.ExInt:
		return api.Value{Num: e.Num}
	case api.ExVar:
		at := len(env) - 1
		for env[at].Name != e.Name {
			at--
		}
		return env[at].Value
	case api.ExLet:
		return r.eval(e.Kids[1], with(env, api.Bind{Name: e.Name, Value: r.eval(e.Kids[0], env)}))
	case api.ExIf:
		if r.eval(e.Kids[0], env).Name == "True" {
			return r.eval(e.Kids[1], env)
		}
		return r.eval(e.Kids[2], env)
	case api.ExMatch:
		return r.match(e, r.eval(e.Kids[0], env), env)
	case api.ExFor:
		v := r.eval(e.Kids[0], env)
		for range e.Num {
			v = r.eval(e.Kids[1], with(env, api.Bind{Name: e.Name, Value: v}))
		}
		return v
	}
	var kids []api.Value
	for _, kid := range e.Kids {
		kids = append(kids, r.eval(kid, env))
	}
	return r.of(e, kids)
}

// of is what an expression is worth whose Kids are worth something.
func (r *run) of(e api.Expr, kids []api.Value) api.Value {
	switch e.Kind {
	case api.ExTuple:
		return api.Value{Kind: api.VaTuple, Kids: kids}
	case api.ExCon:
		return api.Value{Kind: api.VaCon, Name: e.Name, Kids: kids}
	case api.ExCall:
		return r.call(e.Name, kids)
	}
	if e.Num <= api.OpMod {
		return api.Value{Num: word.Do(int(e.Num), kids[0].Num, kids[1].Num)}
	}
	if word.Asks(int(e.Num), kids[0].Num, kids[1].Num) {
		return api.Value{Kind: api.VaCon, Name: "True"}
	}
	return api.Value{Kind: api.VaCon, Name: "False"}
}

func (r *run) match(e api.Expr, v api.Value, env []api.Bind) api.Value {
	for _, arm := range e.Arms {
		if names, ok := cover.Takes(arm.Pat, v); ok {
			return r.eval(arm.Body, with(env, names...))
		}
	}
	panic("no arm takes " + value.Text(v))
}

func (r *run) call(name string, args []api.Value) api.Value {
	at := slices.IndexFunc(r.p.Funs, func(f api.Fun) bool { return f.Name == name })
	var env []api.Bind
	for k, p := range r.p.Funs[at].Params {
		env = append(env, api.Bind{Name: p.Name, Value: args[k]})
	}
	if name == r.watched {
		words := value.Size(args[r.by], 1<<20)
		r.stuck = r.stuck || len(r.open) > 0 && words >= r.open[len(r.open)-1]
		r.made++
		r.open = append(r.open, words)
		defer func() { r.open = r.open[:len(r.open)-1] }()
	}
	return r.eval(r.p.Funs[at].Body, env)
}

// callsMade is how often a function is called in all, when it is called with values; false: that takes too long.
func callsMade(t *testing.T, p api.Prog, f api.Fun, by int, args []api.Value) (made int, ok bool) {
	t.Helper()
	r := run{p: p, watched: f.Name, by: by, fuel: 200000}
	func() {
		defer func() {
			x := recover()
			if _, is := x.(spent); x != nil && !is {
				panic(x)
			}
			ok = x == nil
		}()
		r.call(f.Name, args)
	}()
	if r.stuck {
		t.Fatalf("%s, called with %s, calls itself with no fewer words at %d", short(f), short(args), by)
	}
	if words := value.Size(args[by], 1<<20); r.made > words+1 {
		t.Fatalf("%s, called with %s, of %d words at %d, is called %d times", short(f), short(args), words, by, r.made)
	}
	return r.made, ok
}

// P11.4: what goes down is called with fewer words each time, at most as often as there are words, and once
func TestFewerWords(t *testing.T) {
	for _, c := range []struct {
		src  string
		by   int
		args []string
		made int
	}{
		{"fun f (l : list) : int = match l with Nil -> 0 | Cons(x, r) -> x + f(r) end", 0, []string{"Nil"}, 1},
		{"fun f (l : list) : int = match l with Nil -> 0 | Cons(x, r) -> x + f(r) end", 0, []string{"Cons(1, Cons(2, Cons(3, Nil)))"}, 4},
		{"fun f (s : int, l : list) : int = match l with Nil -> s | Cons(x, Nil) -> s + x | Cons(x, Cons(y, r)) -> f(s + y, r) end", 1, []string{"5", "Cons(1, Cons(2, Cons(3, Cons(4, Nil))))"}, 3},
		{"fun f (t : tree, x : int) : bool = match t with Leaf -> False | Node(a, y, b) -> if x == y then True else if x < y then f(a, x) else f(b, x) end", 0, []string{"Node(Node(Leaf, 1, Leaf), 2, Node(Leaf, 4, Node(Leaf, 5, Leaf)))", "3"}, 3},
		{"fun f (w : wrap) : int = match w with End -> 0 | Wrap(p) -> match p with (n, v) -> n + f(v) end end", 0, []string{"Wrap((1, Wrap((2, End))))"}, 3},
		{"fun f (r : rose) : int = match r with Rose(n, s) -> match s with Bare -> n | More(a, _) -> f(a) end end", 0, []string{"Rose(1, More(Rose(2, More(Rose(3, Bare), Bare)), Bare))"}, 3},
		{"fun f (l : list, m : list) : int = match l with Nil -> 0 | Cons(x, l) -> f(l, Cons(x, Cons(x, m))) end", 0, []string{"Cons(1, Cons(2, Nil))", "Nil"}, 3},
	} {
		p := prog(t, house+c.src+start)
		if got := halt.Check(p); got != (api.Fault{}) {
			t.Errorf("Check of %q = %v", c.src, got)
		}
		by, ok := halt.Down(p.Funs[0])
		if by != c.by || !ok {
			t.Fatalf("Down of %q = %d, %v", c.src, by, ok)
		}
		var args []api.Value
		for _, src := range c.args {
			v, _ := value.Read(src)
			args = append(args, v)
		}
		if made, ok := callsMade(t, p, p.Funs[0], by, args); made != c.made || !ok {
			t.Errorf("%q is called %d times, want %d", c.src, made, c.made)
		}
	}
}

// aValue is of a type, and mostly not deeper than so much.
func (m *maker) aValue(t api.Type, depth int) api.Value {
	switch t.Kind {
	case api.TyInt:
		return api.Value{Num: int64(m.below(4))}
	case api.TyTuple:
		return api.Value{Kind: api.VaTuple, Kids: m.values(t.Parts, depth)}
	}
	cons := m.consOf(t.Name)
	c := cons[0]
	if depth > 0 && m.below(6) > 0 {
		c = pick(m.sower, cons[len(cons)-1], pick(m.sower, cons...))
	}
	return api.Value{Kind: api.VaCon, Name: c.Name, Kids: m.values(c.Fields, depth)}
}

func (m *maker) values(l []api.Type, depth int) []api.Value {
	var made []api.Value
	for _, t := range l {
		made = append(made, m.aValue(t, depth-1))
	}
	return made
}

// P11.4: functions that look like chance, called with values that do
func TestFewerWordsOfMany(t *testing.T) {
	s := sower(88172645463325252)
	m := newMaker(t, &s)
	runs, deep := 0, 0
	for i := range 4000 {
		m.slip = []int{0, 20, 6, 3}[i%4]
		p := m.prog()
		if halt.Check(p) != (api.Fault{}) {
			continue
		}
		for _, f := range p.Funs {
			by, ok := halt.Down(f)
			if !ok || by < 0 {
				continue
			}
			for range 3 {
				var args []api.Value
				for _, param := range f.Params {
					args = append(args, m.aValue(param.Type, 8))
				}
				if !value.Of(m.all, args[by], f.Params[by].Type) {
					t.Fatalf("%s is not of %s", short(args[by]), short(f.Params[by].Type))
				}
				made, ok := callsMade(t, p, f, by, args)
				if ok {
					runs++
				}
				if made > 2 {
					deep++
				}
			}
		}
	}
	if runs < 3000 || deep < 500 {
		t.Errorf("%d came to an end, %d called themselves several times: too few", runs, deep)
	}
}

// P11.4: as deep as values may be
func TestFewerWordsOfDeep(t *testing.T) {
	p := prog(t, house+"fun f (n : int, l : list) : int = match l with Nil -> n | Cons(x, r) -> f(n + 1, r) end"+start)
	v := nested(999, api.Value{Kind: api.VaCon, Name: "Nil"}, func(v api.Value) api.Value {
		return api.Value{Kind: api.VaCon, Name: "Cons", Kids: []api.Value{{}, v}}
	})
	if !value.Of(ty.Datas(p), v, data("list")) {
		t.Fatal("a list of " + strconv.Itoa(999) + " is no list")
	}
	if made, ok := callsMade(t, p, p.Funs[0], 1, []api.Value{{}, v}); made != 1000 || !ok {
		t.Errorf("it is called %d times", made)
	}
}
