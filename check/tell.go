package check

import "handloom/api"

// most is how many types can be told in one call: more of them are more than 2^31 - 1 bytes, of which nothing is promised.
const most = (1<<31 - 1) / 48

// teller makes types of their numbers.
type teller struct {
	*types
	told map[number]api.Type // what is told once more as it is; nil: all is made anew
}

// tell is types as new memory. Only where that is more than can be told what is the same shares it, so that there is an end.
func (t *types) tell(l []number) []api.Type {
	size := 0
	for _, n := range l {
		size = min(size+t.size(n), most+1)
	}
	w := teller{types: t}
	if size > most {
		w.told = map[number]api.Type{}
	}
	return each(l, w.typeOf)
}

func (w teller) typeOf(n number) api.Type {
	if t, ok := w.told[n]; ok {
		return t
	}
	s := w.shapeOf(n)
	t := api.Type{Kind: s.kind, Name: s.name, Parts: each(w.parts(n), w.typeOf)}
	if w.told != nil {
		w.told[n] = t
	}
	return t
}
