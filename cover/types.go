package cover

import (
	"slices"

	"handloom/api"
)

// form is a type whose values are records, and its least values, by how deep these may be.
type form struct {
	records []record
	found   []found
	users   []*form // those whose records have it
	asked   int     // for which depth it was asked last
}

// found is a value of fewer parts than all that are less deep.
type found struct {
	small
	depth int
}

// known is the least value that was found.
func (f *form) known(depth int) (small, bool) {
	for _, it := range slices.Backward(f.found) {
		if it.depth <= depth {
			return it.small, true
		}
	}
	return small{}, false
}

// best is the least value of all records but those that are marked.
func (f *form) best(depth int, but marks) (least small, ok bool) {
	for at, r := range f.records {
		if but.has(at) {
			continue
		}
		if s, is := r.least(depth); is && (!ok || s.parts < least.parts) {
			least, ok = s, true
		}
	}
	return least, ok
}

// grows looks for a value that is just so deep, and has fewer parts than those that are less deep.
func (f *form) grows(depth int) bool {
	if f.asked == depth {
		return false
	}
	f.asked = depth
	s, ok := f.best(depth, nil)
	had, before := f.known(depth - 1)
	if !ok || before && s.parts >= had.parts {
		return false
	}
	f.found = append(f.found, found{s, depth})
	return true
}

// which is the place of the record for which a pattern asks; -1: there is none.
func (f *form) which(p *api.Pat) int {
	return slices.IndexFunc(f.records, func(r record) bool { return r.fits(p) })
}

// types is types as spaces of values.
type types struct {
	forms   []*form
	places  map[string]int // those of forms, by their names
	fresh   []*form        // those whose least values are still to be found
	unasked int64          // a number for which no pattern asks, where a value is to be told
}

func newTypes(l []api.Data) *types {
	t := &types{places: map[string]int{}}
	for at, d := range l {
		t.forms = append(t.forms, &form{})
		if _, ok := t.places[d.Name]; !ok {
			t.places[d.Name] = at
		}
	}
	for at, d := range l {
		t.forms[at].records = each(d.Cons, t.made)
	}
	t.fresh = append(t.fresh, t.forms...)
	return t
}

// made is all that a constructor makes.
func (t *types) made(c api.Con) record {
	return record{kind: api.VaCon, name: c.Name, kids: each(c.Fields, t.of)}
}

// of is all values of a type.
func (t *types) of(it api.Type) space {
	switch it.Kind {
	case api.TyInt:
		return numbers{t}
	case api.TyBytes:
		return texts{}
	case api.TyData:
		if at, ok := t.places[it.Name]; ok {
			return choice{form: t.forms[at]}
		}
	case api.TyTuple:
		return t.tuple(each(it.Parts, t.of))
	}
	return choice{form: &form{}}
}

// tuple is a type of its own: types that are made of one another many times over share their parts so.
func (t *types) tuple(kids []space) space {
	f := &form{records: []record{{kind: api.VaTuple, kids: kids}}}
	t.fresh = append(t.fresh, f)
	return choice{form: f}
}

// waiting is the forms that are to be asked, by depths.
type waiting map[int][]*form

func (w waiting) add(depth int, l ...*form) { w[depth] = append(w[depth], l...) }

// all adds a form for each depth behind one at which something is found of which it is made.
func (w waiting) all(f *form) {
	w.add(1, f)
	for _, r := range f.records {
		for _, kid := range r.kids {
			c, ok := kid.(choice)
			if !ok {
				w.add(2, f)
				continue
			}
			c.users = append(c.users, f)
			for _, it := range c.found {
				w.add(it.depth+1, f)
			}
		}
	}
}

// settle finds least values, from one depth to the next.
func (t *types) settle() {
	left := waiting{}
	for _, f := range t.fresh {
		left.all(f)
	}
	t.fresh = nil
	for depth := 1; depth <= api.MaxDeep && len(left) > 0; depth++ {
		for _, f := range left[depth] {
			if f.grows(depth) {
				left.add(depth+1, f.users...)
			}
		}
		delete(left, depth)
	}
}
