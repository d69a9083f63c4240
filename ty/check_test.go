package ty_test

import (
	"slices"
	"strconv"
	"strings"
	"testing"

	"handloom/api"
	"handloom/ty"
)

// checks wants a program's types to have a fault; both readings must tell so.
func checks(t *testing.T, p api.Prog, err api.Errno, at api.Pos) {
	t.Helper()
	want := api.Fault{Err: err, At: at}
	if got := ty.Check(p); got != want || wantCheck(p) != want {
		t.Errorf("Check(%s) = %v, want %v", short(p.Datas), got, want)
	}
}

// checksText wants so of a text, whose types stand on a line each: the fault's place is a line's beginning.
func checksText(t *testing.T, types string, err api.Errno, line int) {
	t.Helper()
	at := api.Pos{}
	if line > 0 {
		at = place(line, 1)
	}
	checks(t, prog(t, strings.ReplaceAll(types, "; ", "\n")), err, at)
}

// P7.3: programs whose types are right
func TestCheckOfRight(t *testing.T) {
	for _, types := range []string{
		"", "type t = A", "type t = A of t | B", "type t = A of bool * act", "type t = A of (bool * (act * bytes))",
		"type t = A of u; type u = B of t | C", "type list = Nil | Cons of int * list; type tree = Leaf | Node of tree * (int * list) * tree",
		"type f = A; type g = B; type len = C; type at = D", "type t = False1 | Sa | Says",
		"type t = A of u; type u = B of v; type v = C of (t * u) | D of (int * int)",
	} {
		checksText(t, types, api.OK, 0)
	}
	var all []string
	for i := range api.MaxDatas {
		n := strconv.Itoa(i)
		all = append(all, "type t"+n+" = A"+n+" of t"+strconv.Itoa((i+1)%api.MaxDatas)+" | B"+n)
	}
	checksText(t, strings.Join(all, "; "), api.OK, 0)
}

// P7.3: names that something has already
func TestCheckTwice(t *testing.T) {
	for types, line := range map[string]int{
		"type bool = A":                                    1,
		"type act = A":                                     1,
		"type t = A; type bool = B":                        2,
		"type t = A; type t = B":                           2,
		"type t = A; type u = B; type t = C":               3,
		"type t = True":                                    1,
		"type t = False":                                   1,
		"type t = Done":                                    1,
		"type t = A | Say of int":                          1,
		"type t = A | B | Tell":                            1,
		"type t = Arm of int":                              1,
		"type t = A; type u = Stop":                        2,
		"type t = A | A":                                   1,
		"type t = A; type u = B | C | B of int":            2,
		"type t = A | B | C | D | C":                       1,
		"type t = A; type u = A":                           2,
		"type t = A | B; type u = C | B":                   2,
		"type t = A | B; type u = C; type v = D | E | A":   3,
		"type t = A | B; type u = C; type v = D | C":       3,
		"type t = A; type u = A; type u = A; type t = A":   2,
		"type t = A; type u = B; type u = A; type v = A":   3,
		"type bool = True | True; type act = Done of none": 1,
	} {
		checksText(t, types, api.ErrTwice, line)
	}
}

// P7.3: fields that are not known
func TestCheckName(t *testing.T) {
	for types, line := range map[string]int{
		"type t = A of u":                                       1,
		"type t = A of none | B":                                1,
		"type t = A | B of int * none":                          1,
		"type t = A | B of int * (int * (bytes * none))":        1,
		"type t = A; type u = B of t; type v = C of none":       3,
		"type t = A; type u = B of v; type w = C of v":          2,
		"type t = A of t | B; type u = C of bools":              2,
		"type t = A of (act * bool * t * u) | B; type v = C":    1,
		"type t = A of u | B; type u = C of v; type w = D of x": 2,
		"type t = A of f":                                       1,
	} {
		checksText(t, types, api.ErrName, line)
	}
}

// P7.3: types without values, and the chapter's example
func TestCheckEmpty(t *testing.T) {
	for types, line := range map[string]int{
		"type t = A of t":                                           1,
		"type t = A; type u = B of u * int":                         2,
		"type t = A of (int * t) | B of t * t":                      1,
		"type t = A of u; type u = B of t":                          1,
		"type t = A | B of u; type u = C of t * v; type v = D of v": 2,
		"type t = A; type u = B of t; type v = C of u * v":          3,
		"type t = A of u; type u = B of v; type v = C of v":         1,
		"type t = A of bool * act; type u = B of act * u":           2,
		"type t = A of t; type u = B":                               1,
	} {
		checksText(t, types, api.ErrEmpty, line)
	}
}

// P7.3: several faults at once: the passes come one behind the other
func TestCheckInOrder(t *testing.T) {
	for types, want := range map[string]api.Fault{
		"type t = A of t; type u = B of none":                                 {Err: api.ErrName, At: place(2, 1)},
		"type t = A of t; type u = B of none; type v = True":                  {Err: api.ErrTwice, At: place(3, 1)},
		"type t = A of none; type t = B":                                      {Err: api.ErrTwice, At: place(2, 1)},
		"type t = A of none; type u = A of u":                                 {Err: api.ErrTwice, At: place(2, 1)},
		"type t = A of t; type u = B | B":                                     {Err: api.ErrTwice, At: place(2, 1)},
		"type t = A of t * none":                                              {Err: api.ErrName, At: place(1, 1)},
		"type t = A of t * none | A":                                          {Err: api.ErrTwice, At: place(1, 1)},
		"type t = A of u; type u = B of t; type v = C of none":                {Err: api.ErrName, At: place(3, 1)},
		"type t = A of u; type u = B of u; type v = C of v":                   {Err: api.ErrEmpty, At: place(1, 1)},
		"type t = A; type u = B of none; type v = C of none; type w = D of w": {Err: api.ErrName, At: place(2, 1)},
		"type t = A; type u = A; type v = A":                                  {Err: api.ErrTwice, At: place(2, 1)},
	} {
		checksText(t, types, want.Err, want.At.Line)
		p := prog(t, strings.ReplaceAll(types, "; ", "\n"))
		p.Queue = 0
		checks(t, p, api.ErrForm, api.Pos{})
	}
}

// P7.3: what is not fit
func TestCheckForm(t *testing.T) {
	good := prog(t, "type t = A of t | B")
	checks(t, good, api.OK, api.Pos{})
	for _, spoil := range []func(p *api.Prog){
		func(p *api.Prog) { *p = api.Prog{} },
		func(p *api.Prog) { p.Queue = 0 },
		func(p *api.Prog) { p.Timers = -1 },
		func(p *api.Prog) { p.Cap = api.MaxState + 1 },
		func(p *api.Prog) { p.State.Kind = 4 },
		func(p *api.Prog) { p.Init.Name = "x" },
		func(p *api.Prog) { p.Funs = []api.Fun{{}} },
		func(p *api.Prog) { p.Hands = []api.Hand{{}} },
		func(p *api.Prog) { p.Datas = append(p.Datas, api.Data{}) },
		func(p *api.Prog) { p.Datas[0].Name = "int" },
		func(p *api.Prog) { p.Datas[0].Name = "T" },
		func(p *api.Prog) { p.Datas[0].Cons = nil },
		func(p *api.Prog) { p.Datas[0].Cons[1].Name = "b" },
		func(p *api.Prog) { p.Datas[0].Cons[0].Fields[0] = tuple(number()) },
		func(p *api.Prog) { p.Datas[0].Cons[0].Fields[0].Parts = []api.Type{number()} },
		func(p *api.Prog) { p.Datas = slices.Repeat(p.Datas, api.MaxDatas+1) },
		func(p *api.Prog) { p.Datas[0].Cons = slices.Repeat(p.Datas[0].Cons, 9) },
	} {
		p := twin(good)
		spoil(&p)
		checks(t, p, api.ErrForm, api.Pos{})
	}
}

// P7.3: names of other things than types are of no account here
func TestCheckOfTypesAlone(t *testing.T) {
	p := prog(t, "type f = F type n = N fun f (n : none) : no = g(state) fun f (x : int) : int = y")
	p.State, p.Init = data("missing"), api.Expr{Kind: api.ExCon, Name: "Missing"}
	checks(t, p, api.OK, api.Pos{})
}

// P7.3: the place is the type's, whatever it is
func TestCheckPlaces(t *testing.T) {
	for _, at := range []api.Pos{{}, {Line: -3, Col: 1 << 40}, {Line: 7, Col: 7}} {
		p := prog(t, "type t = A type u = B of u")
		p.Datas[1].At = at
		checks(t, p, api.ErrEmpty, at)
		p.Datas[1].Cons[0].Fields[0].Name = "none"
		checks(t, p, api.ErrName, at)
		p.Datas[1].Cons[0].Name = "A"
		checks(t, p, api.ErrTwice, at)
	}
}

// P7.3: each field of a program by itself
func TestCheckByOneField(t *testing.T) {
	p := prog(t, "type list = Nil | Cons of int * list\ntype tree = Leaf | Node of (tree * (list * bool)) * tree\ntype none = No of tree * bytes")
	p.Hands = []api.Hand{{Name: "add", Param: api.Param{Name: "n", Type: data("list")}, Body: api.Expr{Kind: api.ExVar, Name: "n"}}}
	seen := map[api.Errno]int{}
	changes(p, func(c api.Prog, field string) {
		got, want := ty.Check(c), wantCheck(c)
		if got != want {
			t.Errorf("%s changed: Check(%s) = %v, want %v", field, short(c), got, want)
		}
		seen[got.Err]++
	})
	for _, err := range []api.Errno{api.OK, api.ErrForm, api.ErrTwice, api.ErrName} {
		if seen[err] < 10 {
			t.Errorf("%d programs had the fault %d: too few", seen[err], err)
		}
	}
}

// P7.3: programs that look like chance
func TestCheckOfMany(t *testing.T) {
	s := sower(1234567)
	seen := map[api.Errno]int{}
	for range 4000 {
		may := sorts{s.below(3) == 0, s.below(2) == 0, s.below(2) == 0}
		p := api.Prog{Queue: 1, Datas: s.fitTypes(may, 0, s.below(7))}
		if s.below(20) == 0 {
			p.Datas = s.anyList()
		}
		got, want := ty.Check(p), wantCheck(p)
		if got != want {
			t.Fatalf("Check(%s) = %v, want %v", short(p.Datas), got, want)
		}
		seen[got.Err]++
	}
	for _, err := range []api.Errno{api.OK, api.ErrForm, api.ErrTwice, api.ErrName, api.ErrEmpty} {
		if seen[err] < 100 {
			t.Errorf("%d programs had the fault %d: too few", seen[err], err)
		}
	}
}
