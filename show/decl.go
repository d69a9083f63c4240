package show

import (
	"slices"

	"handloom/api"
)

// prog is a program's declarations, in the order of its text.
func prog(p api.Prog) []part {
	alone := row{
		row{mark("queue"), count(p.Queue)},
		row{mark("timers"), count(p.Timers)},
		state(p),
	}
	return slices.Concat(each(p.Datas, data), each(p.Funs, fun), alone, each(p.Hands, hand))
}

func typ(t api.Type) part {
	switch t.Kind {
	case api.TyInt:
		return mark("int")
	case api.TyBytes:
		return mark("bytes")
	case api.TyTuple:
		return inside(list("*", t.Parts, typ))
	}
	return mark(t.Name)
}

func data(d api.Data) part {
	return row{mark("type"), mark(d.Name), mark("="), list("|", d.Cons, con)}
}

func con(c api.Con) part {
	if len(c.Fields) == 0 {
		return mark(c.Name)
	}
	return row{mark(c.Name), mark("of"), list("*", c.Fields, typ)}
}

func param(p api.Param) part { return row{mark(p.Name), mark(":"), typ(p.Type)} }

func fun(f api.Fun) part {
	return row{mark("fun"), holds(f.Name, f.Params, param), mark(":"), typ(f.Result), body(f.Body)}
}

func state(p api.Prog) part {
	return row{mark("state"), typ(p.State), limit(p.Cap), body(p.Init)}
}

func hand(h api.Hand) part {
	return row{mark("on"), mark(h.Name), inside(row{param(h.Param), limit(h.Cap)}), body(h.Body)}
}

// limit is how many words a value may have.
func limit(words int) part { return row{mark("cap"), count(words)} }

func body(e api.Expr) part { return row{mark("="), expr(e)} }
