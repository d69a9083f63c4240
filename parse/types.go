package parse

import "handloom/api"

// isType tells whether a name is a type's that is there always.
func isType(name string) bool { return name == "int" || name == "bytes" }

// isOwn tells whether a name is an operator's or such a type's, so that no function has it.
func isOwn(name string) bool {
	_, ok := operator(name)
	return ok || isType(name)
}

func (r *reader) typ() api.Type {
	if r.stands("(") {
		return r.tuple()
	}
	switch name := r.low(); name {
	case "int":
		return api.Type{Kind: api.TyInt}
	case "bytes":
		return api.Type{Kind: api.TyBytes}
	default:
		return api.Type{Kind: api.TyData, Name: name}
	}
}

// tuple takes at least two parts: one alone wants the sign that stands between two.
func (r *reader) tuple() api.Type {
	at := r.next().At
	r.want("(")
	l := list(r, "*", api.MaxFields, r.typ)
	if len(l) == 1 {
		panic(r.unwanted())
	}
	r.want(")")
	return wholeType(api.Type{Kind: api.TyTuple, Parts: l}, at)
}
