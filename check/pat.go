package check

import "handloom/api"

// binder gathers the names that a pattern gives: their order, and their types.
type binder struct {
	*types
	order []string
	given scope
}

// bind goes through a pattern that is fit, and is to take a type's values.
func (t *types) bind(p api.Pat, of number) (*binder, error) {
	b := &binder{types: t, given: scope{}}
	return b, b.pat(p, of)
}

func (b *binder) pat(p api.Pat, of number) error { return placed(b.takes(p, of), p.At) }

func (b *binder) takes(p api.Pat, of number) error {
	switch p.Kind {
	case api.PtVar:
		return b.give(p.Name, of)
	case api.PtInt:
		if b.shapeOf(of).kind != api.TyInt {
			return api.ErrType
		}
	case api.PtCon:
		return b.takesCon(p, of)
	case api.PtTuple:
		if b.shapeOf(of).kind != api.TyTuple || b.rowOf(of).count != len(p.Kids) {
			return api.ErrType
		}
		return b.all(p.Kids, b.parts(of))
	}
	return nil
}

func (b *binder) give(name string, of number) error {
	if _, ok := b.given[name]; ok {
		return api.ErrTwice
	}
	b.order = append(b.order, name)
	b.given[name] = of
	return nil
}

func (b *binder) takesCon(p api.Pat, of number) error {
	k, err := b.conOf(p.Name)
	switch {
	case err != nil:
		return err
	case !b.makes(k, of):
		return api.ErrType
	case len(p.Kids) != len(k.params):
		return api.ErrCount
	}
	return b.all(p.Kids, k.params)
}

// all goes through patterns, each with a type of its own.
func (b *binder) all(kids []api.Pat, of []number) error {
	for at, kid := range kids {
		if err := b.pat(kid, of[at]); err != nil {
			return err
		}
	}
	return nil
}

func (b *binder) params() []api.Param {
	told := b.tell(each(b.order, func(name string) number { return b.given[name] }))
	var l []api.Param
	for at, name := range b.order {
		l = append(l, api.Param{Name: name, Type: told[at]})
	}
	return l
}
