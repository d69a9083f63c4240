package parse

import "handloom/api"

func (r *reader) expr() api.Expr {
	switch r.word() {
	case "let":
		return r.let()
	case "if":
		return r.cond()
	case "match":
		return r.match()
	case "for":
		return r.loop()
	}
	return r.cmp()
}

// behind is the expression behind a sign or a word.
func (r *reader) behind(text string) api.Expr {
	r.want(text)
	return r.expr()
}

func (r *reader) let() api.Expr {
	e := api.Expr{Kind: api.ExLet, At: r.take().At}
	e.Name = r.low()
	e.Kids = []api.Expr{r.behind("="), r.behind("in")}
	return wholeExpr(e)
}

func (r *reader) cond() api.Expr {
	e := api.Expr{Kind: api.ExIf, At: r.next().At}
	e.Kids = []api.Expr{r.behind("if"), r.behind("then"), r.behind("else")}
	return wholeExpr(e)
}

func (r *reader) match() api.Expr {
	e := api.Expr{Kind: api.ExMatch, At: r.next().At}
	e.Kids = []api.Expr{r.behind("match")}
	r.want("with")
	r.skip("|")
	e.Arms = list(r, "|", api.MaxArms, r.arm)
	r.want("end")
	return wholeExpr(e)
}

func (r *reader) arm() api.Arm { return api.Arm{Pat: r.pat(), Body: r.behind("->")} }

func (r *reader) loop() api.Expr {
	e := api.Expr{Kind: api.ExFor, At: r.take().At}
	e.Num = r.within(0, api.MaxTimes)
	r.want("with")
	e.Name = r.low()
	e.Kids = []api.Expr{r.behind("="), r.behind("do")}
	return wholeExpr(e)
}

// cmp takes two sums at most: what two of them say is no number.
func (r *reader) cmp() api.Expr {
	e := r.sum()
	if op, ok := comparison(r.sign()); ok {
		return r.op(op, e, r.sum)
	}
	return e
}

func (r *reader) sum() api.Expr { return r.chain(summing, r.prod) }

func (r *reader) prod() api.Expr { return r.chain(timing, r.atom) }

// chain takes parts with operators between them, from the left.
func (r *reader) chain(operator func(sign string) (int64, bool), part func() api.Expr) api.Expr {
	e := part()
	for {
		op, ok := operator(r.sign())
		if !ok {
			return e
		}
		e = r.op(op, e, part)
	}
}

// op takes an operator's sign, and what is on its right.
func (r *reader) op(op int64, left api.Expr, right func() api.Expr) api.Expr {
	return wholeExpr(api.Expr{Kind: api.ExOp, At: r.take().At, Num: op, Kids: []api.Expr{left, right()}})
}

func comparison(sign string) (int64, bool) {
	switch sign {
	case "<":
		return api.OpLt, true
	case "<=":
		return api.OpLe, true
	case "==":
		return api.OpEq, true
	}
	return 0, false
}

func summing(sign string) (int64, bool) {
	switch sign {
	case "+":
		return api.OpAdd, true
	case "-":
		return api.OpSub, true
	}
	return 0, false
}

func timing(sign string) (int64, bool) {
	switch sign {
	case "*":
		return api.OpMul, true
	case "/":
		return api.OpDiv, true
	case "%":
		return api.OpMod, true
	}
	return 0, false
}

// operator is one that has a name.
func operator(name string) (int64, bool) {
	switch name {
	case "len":
		return api.OpLen, true
	case "at":
		return api.OpAt, true
	case "cat":
		return api.OpCat, true
	case "cut":
		return api.OpCut, true
	}
	return 0, false
}
