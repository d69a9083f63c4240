package bound

import "handloom/api"

// costs is what is told of an expression: its type, and its bound, as it is put together.
type costs struct {
	api.Bound
	of api.Type
}

// begun is what an expression costs but for its parts.
func begun(e *api.Expr) costs {
	var c costs
	pats := patsOf(e)
	c.Steps = number(4 + 2*len(e.Kids) + 8*(len(e.Arms)+pats))
	c.Peak = number(2*(len(e.Kids)+pats) + 1)
	return c
}

// adds puts the cost of what is gone through, too, so many slots further on.
func (c *costs) adds(b api.Bound, slots int) {
	c.Words = plus(c.Words, b.Words)
	c.Steps = plus(c.Steps, b.Steps)
	c.Peak = greater(c.Peak, plus(b.Peak, number(slots)))
}

// makes puts the words of what is made.
func (c *costs) makes(words int) {
	c.Words = plus(c.Words, number(words))
	c.Size = plus(c.Size, number(words))
}

// makesOf puts the words of a record that is made of Kids; without them it is none.
func (c *costs) makesOf(kids []costs) {
	if len(kids) == 0 {
		return
	}
	c.makes(2 + len(kids))
	for _, kid := range kids {
		c.Size = plus(c.Size, kid.Size)
	}
}

// is makes an expression be what a part of it is that tells its value, and puts that part's cost.
func (c *costs) is(part costs, slots int) {
	c.of, c.Size = part.of, part.Size
	c.adds(part.Bound, slots)
}

// or is at most either of two that are of one type.
func (c costs) or(other costs) costs {
	return costs{api.Bound{
		Size:  greater(c.Size, other.Size),
		Words: greater(c.Words, other.Words),
		Steps: greater(c.Steps, other.Steps),
		Peak:  greater(c.Peak, other.Peak),
	}, other.of}
}
