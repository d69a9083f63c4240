package cover

import "handloom/api"

// missing is a value of a type that no pattern takes.
func (t *types) missing(of space, pats []api.Pat) (small, bool) {
	t.settle()
	return untaken(of, pats)
}

// head is what a pattern that does not take all asks first: two of unlike heads take nothing in common.
type head struct {
	kind int
	num  int64
	name string
}

func headOf(p *api.Pat) head {
	switch p.Kind {
	case api.PtInt:
		return head{kind: p.Kind, num: p.Num}
	case api.PtCon:
		return head{kind: p.Kind, name: p.Name}
	}
	return head{kind: p.Kind}
}

// spare is the place of the first pattern of a type that adds nothing to those ahead. These stand by their heads, so that each of many is held against few.
func (t *types) spare(of space, pats []api.Pat) int {
	t.settle()
	ahead := map[head][]api.Pat{}
	for at := range pats {
		p := &pats[at]
		h := headOf(p)
		others := ahead[h]
		if takesAll(p) {
			others = pats[:at]
		}
		if at > 0 && takesAll(&pats[at-1]) || !adds(of, p, others) {
			return at
		}
		ahead[h] = append(ahead[h], *p)
	}
	return -1
}

// adds tells whether a pattern takes a value that no other one takes.
func adds(of space, p *api.Pat, others []api.Pat) bool {
	taken, ok := within(of, p, api.MaxDeep)
	if !ok {
		return false
	}
	_, ok = untaken(taken, others)
	return ok
}
