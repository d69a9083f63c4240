package parse

import "handloom/api"

// decls is a program as far as it is read, and which of its parts stood there that must not stand twice.
type decls struct {
	api.Prog
	queue, timers, state bool
}

func (r *reader) prog() api.Prog {
	var d decls
	for !r.ended() {
		r.decl(&d)
	}
	if !d.queue || !d.state {
		panic(api.Fault{Err: api.ErrMiss, At: r.next().At})
	}
	return d.Prog
}

func (r *reader) decl(d *decls) {
	switch r.word() {
	case "type":
		r.full = len(d.Datas) == api.MaxDatas
		d.Datas = append(d.Datas, r.data())
	case "fun":
		r.full = len(d.Funs) == api.MaxFuns
		d.Funs = append(d.Funs, r.fun())
	case "on":
		r.full = len(d.Hands) == api.MaxHands
		d.Hands = append(d.Hands, r.hand())
	case "queue":
		r.once(&d.queue)
		d.Queue = r.many(1, api.MaxQueue)
	case "timers":
		r.once(&d.timers)
		d.Timers = r.many(0, api.MaxTimers)
	case "state":
		r.once(&d.state)
		d.State, d.Cap, d.Init = r.typ(), r.limit(api.MaxState), r.body()
	default:
		panic(r.unwanted())
	}
}

// once takes a word that must not have stood there.
func (r *reader) once(stood *bool) {
	t := r.take()
	if *stood {
		panic(api.Fault{Err: api.ErrTwice, At: t.At})
	}
	*stood = true
}

// limit takes how many words a value may have.
func (r *reader) limit(most int64) int {
	r.want("cap")
	return r.many(0, most)
}

// fresh takes a name that the language itself must not have.
func (r *reader) fresh(taken func(name string) bool) string {
	t := r.kind(api.TkLow)
	if taken(t.Text) {
		panic(api.Fault{Err: api.ErrTwice, At: t.At})
	}
	return t.Text
}

func (r *reader) data() api.Data {
	d := api.Data{At: r.take().At}
	d.Name = r.fresh(isType)
	r.want("=")
	d.Cons = list(r, "|", api.MaxCons, r.con)
	return d
}

func (r *reader) con() api.Con {
	c := api.Con{Name: r.kind(api.TkUp).Text}
	if r.skip("of") {
		c.Fields = list(r, "*", api.MaxFields, r.typ)
	}
	return c
}

func (r *reader) fun() api.Fun {
	f := api.Fun{At: r.take().At}
	f.Name = r.fresh(isOwn)
	f.Params = inside(r, ",", api.MaxParams, r.param)
	r.want(":")
	f.Result = r.typ()
	f.Body = r.body()
	return f
}

func (r *reader) hand() api.Hand {
	h := api.Hand{At: r.take().At}
	h.Name = r.low()
	r.want("(")
	h.Param = r.param()
	h.Cap = r.limit(api.MaxLoad)
	r.want(")")
	h.Body = r.body()
	return h
}

func (r *reader) param() api.Param {
	p := api.Param{Name: r.low()}
	r.want(":")
	p.Type = r.typ()
	return p
}

func (r *reader) body() api.Expr { return r.behind("=") }
