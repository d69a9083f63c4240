package value

import "handloom/api"

// least and most are those of a number.
const (
	least = -1 << 62
	most  = 1<<62 - 1
)

// node is a part of a value, and the numbers that its Kids have among all parts.
type node struct {
	part api.Value
	kids []int
}

func kidsOf(v api.Value) []api.Value { return v.Kids }

// nodesOf is all parts of a value, in order; false: one of them is too deep, or not as its kind is.
func nodesOf(v api.Value) ([]node, bool) {
	var l []node
	var around []int // the numbers of what a part is in, by how deep that is
	for depth, part := range parts(v, kidsOf) {
		if depth > api.MaxDeep || !right(part) {
			return nil, false
		}
		at := len(l)
		if depth > 1 {
			above := around[depth-2]
			l[above].kids = append(l[above].kids, at)
		}
		around = append(around[:depth-1], at)
		l = append(l, node{part: part})
	}
	return l, true
}

// right tells whether a part is as its kind is, whatever its Kids are.
func right(v api.Value) bool {
	ok := true
	// what a kind has is cleared: what is left must be nothing
	switch v.Kind {
	case api.VaInt:
		ok = least <= v.Num && v.Num <= most
		v.Num = 0
	case api.VaBytes:
		ok = len(v.Bytes) <= api.MaxBytes
		v.Bytes = nil
	case api.VaCon:
		v.Name, v.Kids = "", nil
	case api.VaTuple:
		v.Kids = nil
	default:
		return false
	}
	return ok && v.Num == 0 && v.Name == "" && len(v.Bytes) == 0 && len(v.Kids) == 0
}
