package check

import "handloom/api"

// fun is a function, as it is called.
type fun struct {
	name string
	signature
}

// checker goes through a program's expressions, which are fit.
type checker struct {
	*types
	funs  []fun
	open  int // how many of funs may be called, from the first one on
	names names
}

func (c *checker) expr(e api.Expr) (number, error) {
	t, err := c.typeOf(e)
	return t, placed(err, e.At)
}

// within goes through an expression for which names more are given.
func (c *checker) within(s scope, e api.Expr) (number, error) {
	c.names = append(c.names, s)
	t, err := c.expr(e)
	c.names = c.names[:len(c.names)-1]
	return t, err
}

// want goes through such an expression, and then holds it against a type.
func (c *checker) want(s scope, e api.Expr, want number) error {
	t, err := c.within(s, e)
	if err == nil && t != want {
		return placed(api.ErrType, e.At)
	}
	return err
}

func (c *checker) typeOf(e api.Expr) (number, error) {
	switch e.Kind {
	case api.ExBytes:
		return c.plain(api.TyBytes), nil
	case api.ExVar:
		return c.names.find(e.Name)
	case api.ExCon:
		k, err := c.conOf(e.Name)
		if err != nil {
			return 0, err
		}
		return c.apply(k.signature, e.Kids)
	case api.ExTuple:
		return c.tupleOf(e.Kids)
	case api.ExCall:
		f, err := c.called(e.Name)
		if err != nil {
			return 0, err
		}
		return c.apply(f.signature, e.Kids)
	case api.ExLet:
		return c.let(e)
	case api.ExIf:
		return c.choice(e.Kids)
	case api.ExMatch:
		return c.match(e)
	case api.ExOp:
		return c.apply(c.operator(e.Num), e.Kids)
	case api.ExFor:
		return c.loop(e)
	}
	return c.plain(api.TyInt), nil
}

// apply is what is told of Kids, if they are such as are wanted.
func (c *checker) apply(s signature, kids []api.Expr) (number, error) {
	if len(kids) != len(s.params) {
		return 0, api.ErrCount
	}
	for at, kid := range kids {
		if err := c.want(nil, kid, s.params[at]); err != nil {
			return 0, err
		}
	}
	return s.result, nil
}

// called is the function of a name, if it may be called here.
func (c *checker) called(name string) (fun, error) {
	for at, f := range c.funs {
		if f.name != name {
			continue
		}
		if at >= c.open {
			return fun{}, api.ErrOrder
		}
		return f, nil
	}
	return fun{}, api.ErrName
}

func (c *checker) operator(op int64) signature {
	num, text := c.plain(api.TyInt), c.plain(api.TyBytes)
	switch op {
	case api.OpLt, api.OpLe, api.OpEq:
		return signature{[]number{num, num}, c.data("bool")}
	case api.OpLen:
		return signature{[]number{text}, num}
	case api.OpAt:
		return signature{[]number{text, num}, num}
	case api.OpCat:
		return signature{[]number{text, text}, text}
	case api.OpCut:
		return signature{[]number{text, num, num}, text}
	}
	return signature{[]number{num, num}, num}
}

func (c *checker) tupleOf(kids []api.Expr) (number, error) {
	var parts []number
	for _, kid := range kids {
		t, err := c.expr(kid)
		if err != nil {
			return 0, err
		}
		parts = append(parts, t)
	}
	return c.tuple(parts), nil
}

func (c *checker) let(e api.Expr) (number, error) {
	t, err := c.expr(e.Kids[0])
	if err != nil {
		return 0, err
	}
	return c.within(scope{e.Name: t}, e.Kids[1])
}

func (c *checker) loop(e api.Expr) (number, error) {
	t, err := c.expr(e.Kids[0])
	if err != nil {
		return 0, err
	}
	return t, c.want(scope{e.Name: t}, e.Kids[1], t)
}

func (c *checker) choice(kids []api.Expr) (number, error) {
	if err := c.want(nil, kids[0], c.data("bool")); err != nil {
		return 0, err
	}
	t, err := c.expr(kids[1])
	if err != nil {
		return 0, err
	}
	return t, c.want(nil, kids[2], t)
}

func (c *checker) match(e api.Expr) (number, error) {
	of, err := c.expr(e.Kids[0])
	if err != nil {
		return 0, err
	}
	t, err := c.first(e.Arms[0], of)
	for _, arm := range e.Arms[1:] {
		if err != nil {
			break
		}
		err = c.next(arm, of, t)
	}
	return t, err
}

// first is the type that the first arm of a match tells: the others are held against it.
func (c *checker) first(arm api.Arm, of number) (number, error) {
	b, err := c.bind(arm.Pat, of)
	if err != nil {
		return 0, err
	}
	return c.within(b.given, arm.Body)
}

func (c *checker) next(arm api.Arm, of, want number) error {
	b, err := c.bind(arm.Pat, of)
	if err != nil {
		return err
	}
	return c.want(b.given, arm.Body, want)
}
