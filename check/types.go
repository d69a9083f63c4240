package check

import (
	"handloom/api"
	"handloom/ty"
)

// number is a type's. Names that are given one within another make types of far more parts than there is room for: so each type is kept once, and two of them are the same if their numbers are.
type number int

// shape is what a type is made of: its kind, its name, the number of the row of its parts.
type shape struct {
	kind int
	name string
	row  int
}

// row is types one behind the other: the number of the row ahead of the last one, that one's own, how many they are, and how many with all of their parts, as far as these are counted.
type row struct {
	ahead int
	last  number
	count int
	size  int
}

// types is those of a list, and all others that are met.
type types struct {
	list   []api.Data
	shapes numbering[shape]
	rows   numbering[row]
	cons   map[string]con
}

func newTypes(l []api.Data) *types {
	// the row 0 is the empty one
	return &types{list: l, shapes: newNumbering[shape](), rows: newNumbering(row{}), cons: map[string]con{}}
}

func (t *types) numberOf(of api.Type) number {
	return t.made(of.Kind, of.Name, each(of.Parts, t.numberOf))
}

// made is a type that is made of others.
func (t *types) made(kind int, name string, parts []number) number {
	at := 0
	for _, part := range parts {
		ahead := t.rows.list[at]
		at = t.rows.of(row{at, part, ahead.count + 1, min(ahead.size+t.size(part), most+1)})
	}
	return number(t.shapes.of(shape{kind, name, at}))
}

func (t *types) plain(kind int) number { return t.made(kind, "", nil) }

func (t *types) data(name string) number { return t.made(api.TyData, name, nil) }

func (t *types) tuple(parts []number) number { return t.made(api.TyTuple, "", parts) }

func (t *types) shapeOf(n number) shape { return t.shapes.list[n] }

func (t *types) rowOf(n number) row { return t.rows.list[t.shapeOf(n).row] }

// size is how many types a type is, with all of its parts, as far as they are counted.
func (t *types) size(n number) int { return 1 + t.rowOf(n).size }

func (t *types) parts(n number) []number {
	r := t.rowOf(n)
	l := make([]number, r.count)
	for r.count > 0 {
		l[r.count-1] = r.last
		r = t.rows.list[r.ahead]
	}
	return l
}

// signature is what a function, a constructor, an operator wants, and the type of what it tells.
type signature struct {
	params []number
	result number
}

// con is a constructor of a type.
type con struct {
	signature
	data  string // the type's name
	first bool   // it is the first type of that name
}

func (t *types) conOf(name string) (con, error) {
	if k, ok := t.cons[name]; ok {
		return k, nil
	}
	data, at, ok := ty.Con(t.list, name)
	if !ok {
		return con{}, api.ErrName
	}
	d := t.list[data]
	s := signature{each(d.Cons[at].Fields, t.numberOf), t.data(d.Name)}
	k := con{s, d.Name, ty.Find(t.list, d.Name) == data}
	t.cons[name] = k
	return k, nil
}

// makes tells whether a constructor is one of the type that a type's name finds.
func (t *types) makes(k con, n number) bool {
	s := t.shapeOf(n)
	return s.kind == api.TyData && s.name == k.data && k.first
}
