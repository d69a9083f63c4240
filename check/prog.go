package check

import (
	"slices"

	"handloom/api"
	"handloom/ty"
)

func newChecker(p api.Prog) *checker {
	c := &checker{types: newTypes(ty.Datas(p)), open: len(p.Funs)}
	for _, f := range p.Funs {
		params := each(each(f.Params, typeOfParam), c.numberOf)
		c.funs = append(c.funs, fun{f.Name, signature{params, c.numberOf(f.Result)}})
	}
	return c
}

// prog goes through a program with whose types nothing is wrong.
func (c *checker) prog(p api.Prog) error {
	for at, f := range p.Funs {
		c.open = at + 1
		if err := placed(c.fun(f, p.Funs[:at]), f.At); err != nil {
			return err
		}
	}
	if err := placed(c.start(p), p.Init.At); err != nil {
		return err
	}
	for at, h := range p.Hands {
		if err := placed(c.hand(h, p.Hands[:at], p.State), h.At); err != nil {
			return err
		}
	}
	return placed(alarmed(p), p.Init.At)
}

// fun goes through a function behind others.
func (c *checker) fun(f api.Fun, ahead []api.Fun) error {
	given := c.scopeOf(f.Params)
	if len(given) < len(f.Params) || slices.ContainsFunc(ahead, func(a api.Fun) bool { return a.Name == f.Name }) {
		return api.ErrTwice
	}
	if !c.know(f.Result) || !c.know(each(f.Params, typeOfParam)...) {
		return api.ErrName
	}
	return c.want(given, f.Body, c.numberOf(f.Result))
}

func typeOfParam(p api.Param) api.Type { return p.Type }

// know tells whether types are known, all of them.
func (c *checker) know(l ...api.Type) bool {
	for _, t := range l {
		if !ty.Known(c.list, t) {
			return false
		}
	}
	return true
}

// start goes through what the state is at first.
func (c *checker) start(p api.Prog) error {
	if !c.know(p.State) {
		return api.ErrName
	}
	return c.want(nil, p.Init, c.numberOf(p.State))
}

// hand goes through a handler behind others.
func (c *checker) hand(h api.Hand, ahead []api.Hand, state api.Type) error {
	if slices.ContainsFunc(ahead, func(a api.Hand) bool { return a.Name == h.Name }) {
		return api.ErrTwice
	}
	if !c.know(h.Param.Type) {
		return api.ErrName
	}
	given := c.scopeOf([]api.Param{{Name: "state", Type: state}, h.Param})
	told := c.tuple([]number{c.numberOf(state), c.data("act")})
	if err := c.want(given, h.Body, told); err != nil {
		return err
	}
	if isAlarm(h) && c.numberOf(h.Param.Type) != c.plain(api.TyInt) {
		return api.ErrType
	}
	return nil
}

// alarmed is wrong where there are timers, but no handler of what they tell.
func alarmed(p api.Prog) error {
	if p.Timers > 0 && !slices.ContainsFunc(p.Hands, isAlarm) {
		return api.ErrMiss
	}
	return nil
}

func isAlarm(h api.Hand) bool { return h.Name == "alarm" }
