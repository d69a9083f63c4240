package value

import (
	"handloom/api"
	"handloom/ty"
)

// shape is what tells the constructors of a type apart, as far as a value shows it: several of one shape differ in their fields' types alone.
type shape struct {
	name string
	kids int
}

// makers is the rows of fields' types that a type's constructors have, by their shapes.
type makers map[shape][][]api.Type

func newMakers(d api.Data) makers {
	m := makers{}
	for _, c := range d.Cons {
		s := shape{c.Name, len(c.Fields)}
		m[s] = append(m[s], c.Fields)
	}
	return m
}

// question asks whether a part of a value, by its number, is of a type, by its name.
type question struct {
	part int
	name string
}

type answer struct{ yes bool }

// holding is a value that is held against types, and what is known by now: of each type what makes it, and which part is of it. With several constructors of one shape a part may be asked for the same again and again.
type holding struct {
	nodes   []node
	types   []api.Data
	makers  map[string]makers
	answers map[question]answer
}

func newHolding(nodes []node, types []api.Data) *holding {
	return &holding{nodes, types, map[string]makers{}, map[question]answer{}}
}

// of tells whether a part is of a type.
func (h *holding) of(at int, t api.Type) bool {
	n := h.nodes[at]
	switch {
	case t.Kind == api.TyInt:
		return n.part.Kind == api.VaInt
	case t.Kind == api.TyBytes:
		return n.part.Kind == api.VaBytes
	case t.Kind == api.TyData && n.part.Kind == api.VaCon:
		return h.ofData(question{at, t.Name})
	case t.Kind == api.TyTuple && n.part.Kind == api.VaTuple && len(t.Parts) == len(n.kids):
		return h.all(n.kids, t.Parts)
	}
	return false
}

// all tells whether parts are of types, as many, one by one.
func (h *holding) all(kids []int, row []api.Type) bool {
	for i, at := range kids {
		if !h.of(at, row[i]) {
			return false
		}
	}
	return true
}

func (h *holding) ofData(q question) bool {
	a, ok := h.answers[q]
	if !ok {
		a = answer{h.isMade(q)}
		h.answers[q] = a
	}
	return a.yes
}

// isMade tells whether one of a type's constructors makes a part.
func (h *holding) isMade(q question) bool {
	n := h.nodes[q.part]
	for _, row := range h.makersOf(q.name)[shape{n.part.Name, len(n.kids)}] {
		if h.all(n.kids, row) {
			return true
		}
	}
	return false
}

// makersOf is what makes a type; nothing does, if there is none of its name.
func (h *holding) makersOf(name string) makers {
	m, ok := h.makers[name]
	if !ok {
		if at := ty.Find(h.types, name); at >= 0 {
			m = newMakers(h.types[at])
		}
		h.makers[name] = m
	}
	return m
}
