package cover

import "handloom/api"

func takes(p api.Pat, v api.Value) bool {
	switch p.Kind {
	case api.PtAny, api.PtVar:
		return true
	case api.PtInt:
		return v.Kind == api.VaInt && v.Num == p.Num
	case api.PtCon:
		return v.Kind == api.VaCon && v.Name == p.Name && takeAll(p.Kids, v.Kids)
	case api.PtTuple:
		return v.Kind == api.VaTuple && takeAll(p.Kids, v.Kids)
	}
	return false
}

// takeAll tells whether there are as many patterns as values, each of which takes its own.
func takeAll(pats []api.Pat, l []api.Value) bool {
	if len(pats) != len(l) {
		return false
	}
	for at, p := range pats {
		if !takes(p, l[at]) {
			return false
		}
	}
	return true
}

// bound is names with their values, and behind them those of a pattern that takes a value.
func bound(l []api.Bind, p api.Pat, v api.Value) []api.Bind {
	switch p.Kind {
	case api.PtVar:
		return append(l, api.Bind{Name: p.Name, Value: newValue(v)})
	case api.PtCon, api.PtTuple:
		for at, kid := range p.Kids {
			l = bound(l, kid, v.Kids[at])
		}
	}
	return l
}

func newValue(v api.Value) api.Value {
	v.Bytes = append([]byte(nil), v.Bytes...)
	v.Kids = each(v.Kids, newValue)
	return v
}

// each is a new list, of what is made of each part; of an empty one none.
func each[T, U any](list []T, change func(part T) U) []U {
	var made []U
	for _, part := range list {
		made = append(made, change(part))
	}
	return made
}
