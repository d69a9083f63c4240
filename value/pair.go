package value

import "handloom/api"

// pair is parts that stand in one place of two values.
type pair struct{ a, b api.Value }

// alike tells whether two parts are the same, but for what their Kids are.
func (p pair) alike() bool {
	a, b := p.a, p.b
	return a.Kind == b.Kind && a.Num == b.Num && a.Name == b.Name && string(a.Bytes) == string(b.Bytes) && len(a.Kids) == len(b.Kids)
}

// kids is the pairs of what two that are alike have.
func (p pair) kids() []pair {
	var l []pair
	for at, kid := range p.a.Kids {
		l = append(l, pair{kid, p.b.Kids[at]})
	}
	return l
}
