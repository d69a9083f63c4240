package ty

import "handloom/api"

// maker is a constructor: its type, and the types of which it needs values.
type maker struct {
	data  int
	needs []int
}

// makersOf is all constructors, but for those that nothing can be made with.
func makersOf(l []api.Data) []maker {
	n := numbersOf(l)
	var makers []maker
	for at, d := range l {
		for _, c := range d.Cons {
			if needs, ok := n.needs(nil, c.Fields); ok {
				makers = append(makers, maker{at, needs})
			}
		}
	}
	return makers
}

// needs is a list of types, and behind them those of which the parts of a type need values; false: no value has such parts.
func (n numbers) needs(list []int, parts []api.Type) ([]int, bool) {
	ok := true
	for _, t := range parts {
		switch t.Kind {
		case api.TyInt, api.TyBytes:
		case api.TyData:
			var at int
			at, ok = n[t.Name]
			list = append(list, at)
		case api.TyTuple:
			list, ok = n.needs(list, t.Parts)
		default:
			ok = false
		}
		if !ok {
			return nil, false
		}
	}
	return list, true
}

// finding is which types have values, as far as it is found, and the constructors that wait for a type that has none so far.
type finding struct {
	full    []bool
	waiting [][]maker
}

func hasNone(api.Data) bool { return false }

// rounds finds what has values. Only those that waited for what one round found are asked in the next one: so each need is gone through once.
func (f finding) rounds(now []maker) {
	for len(now) > 0 {
		var next []maker
	makers:
		for _, m := range now {
			for at, need := range m.needs {
				if !f.full[need] {
					f.waiting[need] = append(f.waiting[need], maker{m.data, m.needs[at:]})
					continue makers
				}
			}
			if !f.full[m.data] {
				f.full[m.data] = true
				next = append(next, f.waiting[m.data]...)
			}
		}
		now = next
	}
}
