package ast

import "handloom/api"

// count is how many expressions and patterns were gone through.
type count struct{ exprs, pats int }

func (c count) expr(e api.Expr) count {
	c.exprs++
	c = fold(e.Kids, c, func(c count, _ int, kid api.Expr) count { return c.expr(kid) })
	return fold(e.Arms, c, func(c count, _ int, arm api.Arm) count { return c.pat(arm.Pat).expr(arm.Body) })
}

func (c count) pat(p api.Pat) count {
	c.pats++
	return fold(p.Kids, c, func(c count, _ int, kid api.Pat) count { return c.pat(kid) })
}

// leaning gathers the names that an expression leans on.
type leaning struct {
	around map[string]int // how often each name is given around: one that an inner part gives again is still given behind that part
	met    map[string]int // the names of list
	list   []string
}

func (l *leaning) expr(e api.Expr) *leaning {
	if e.Kind == api.ExVar {
		l.meet(e.Name)
	}
	l = fold(e.Kids, l, func(l *leaning, at int, kid api.Expr) *leaning { return l.within(givenTo(e, at), kid) })
	return fold(e.Arms, l, func(l *leaning, _ int, arm api.Arm) *leaning { return l.within(givenBy(nil, 0, arm.Pat), arm.Body) })
}

func (l *leaning) meet(name string) {
	if l.around[name] > 0 || l.met[name] > 0 {
		return
	}
	l.met[name]++
	l.list = append(l.list, name)
}

// within goes through a part to which names are given.
func (l *leaning) within(names []string, part api.Expr) *leaning {
	for _, name := range names {
		l.around[name]++
	}
	l.expr(part)
	for _, name := range names {
		l.leave(name)
	}
	return l
}

// leave drops a name that nothing gives any more, so that no more names are kept than stand around a part.
func (l *leaning) leave(name string) {
	l.around[name]--
	if l.around[name] == 0 {
		delete(l.around, name)
	}
}

// givenTo is the names that an expression gives to one of its Kids.
func givenTo(e api.Expr, at int) []string {
	if at == 1 && (e.Kind == api.ExLet || e.Kind == api.ExFor) {
		return []string{e.Name}
	}
	return nil
}

// givenBy is names, and behind them those that a pattern gives.
func givenBy(names []string, _ int, p api.Pat) []string {
	if p.Kind == api.PtVar {
		names = append(names, p.Name)
	}
	return fold(p.Kids, names, givenBy)
}
