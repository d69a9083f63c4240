package cover

import "handloom/api"

// number is one number.
type number int64

// numbers is those for which no pattern asks: there is always one more. What takes one of them takes all numbers, so that the others need not be looked at.
type numbers struct{ types *types }

func (n number) least(depth int) (small, bool) { return plain(depth, api.Value{Num: int64(n)}) }

func (n numbers) least(depth int) (small, bool) { return plain(depth, api.Value{Num: n.types.unasked}) }

// asked is how often patterns ask for numbers.
type asked map[int64]int

func (a asked) add(p api.Pat) {
	if p.Kind == api.PtInt {
		a[p.Num]++
	}
	for _, kid := range p.Kids {
		a.add(kid)
	}
}

// unasked is the least number, from 0 on, for which no pattern asks.
func unasked(pats []api.Pat) int64 {
	a := asked{}
	for _, p := range pats {
		a.add(p)
	}
	num := int64(0)
	for a[num] > 0 {
		num++
	}
	return num
}
