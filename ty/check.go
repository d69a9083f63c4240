package ty

import (
	"slices"

	"handloom/api"
)

// look is one way to go through the types, and what it is that it finds wrong.
type look struct {
	err   api.Errno
	wrong func(at int, d api.Data) bool
}

// fault is the first that is wrong with all types of a program; nothing ever is with those that are there always.
func fault(l []api.Data) api.Fault {
	g, n, full := given{}, numbersOf(l), Full(l)
	looks := []look{
		{api.ErrTwice, func(_ int, d api.Data) bool { return g.againOf(d) }},
		{api.ErrName, func(_ int, d api.Data) bool { return !n.knowFields(d) }},
		{api.ErrEmpty, func(at int, _ api.Data) bool { return !full[at] }},
	}
	for _, look := range looks {
		for at, d := range l {
			if look.wrong(at, d) {
				return api.Fault{Err: look.err, At: d.At}
			}
		}
	}
	return api.Fault{}
}

// againOf gives a type's names, and tells whether one was given ahead.
func (g given) againOf(d api.Data) bool {
	return g.again(d.Name) || slices.ContainsFunc(d.Cons, func(c api.Con) bool { return g.again(c.Name) })
}

func (n numbers) knowFields(d api.Data) bool {
	return !slices.ContainsFunc(d.Cons, func(c api.Con) bool { return !n.knowAll(c.Fields) })
}
