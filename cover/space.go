package cover

import (
	"slices"

	"handloom/api"
)

// space is values of one type.
type space interface {
	// least is one of its values that are at most so deep, of as few parts as can be; false: there is none.
	least(depth int) (small, bool)
}

// texts is all texts.
type texts struct{}

// record is what a constructor makes, or what is made of several parts.
type record struct {
	kind int
	name string
	kids []space
}

// choice is what all records of a type make but those that are marked.
type choice struct {
	*form
	but marks
}

func plain(depth int, v api.Value) (small, bool) {
	if depth < 1 {
		return small{}, false
	}
	return small{1, v}, true
}

func (texts) least(depth int) (small, bool) { return plain(depth, api.Value{Kind: api.VaBytes}) }

func (r record) least(depth int) (small, bool) {
	all, ok := plain(depth, api.Value{Kind: r.kind, Name: r.name})
	if !ok {
		return small{}, false
	}
	for _, kid := range r.kids {
		s, ok := kid.least(depth - 1)
		if !ok {
			return small{}, false
		}
		all = all.around(s)
	}
	return all, true
}

// with is the same record with another Kid at a place.
func (r record) with(at int, kid space) record {
	r.kids = slices.Clone(r.kids)
	r.kids[at] = kid
	return r
}

// fits tells whether a pattern asks for such a record, whatever it asks of the Kids. None that is fit has more than MaxFields of them.
func (r record) fits(p *api.Pat) bool {
	if len(r.kids) != len(p.Kids) || len(p.Kids) > api.MaxFields {
		return false
	}
	switch p.Kind {
	case api.PtCon:
		return r.kind == api.VaCon && r.name == p.Name
	case api.PtTuple:
		return r.kind == api.VaTuple
	}
	return false
}

func (c choice) least(depth int) (small, bool) {
	if len(c.but) == 0 {
		return c.known(depth)
	}
	return c.best(depth, c.but)
}

// without is what is left when a record is taken away: nothing, if it was the last one.
func (c choice) without(at int) []space {
	left := choice{c.form, c.but.with(at)}
	for at := range c.records {
		if !left.but.has(at) {
			return []space{left}
		}
	}
	return nil
}
