package cover

import "handloom/api"

// most is how many parts a value has at most that is told: more of them are more than 2^31 - 1 bytes, of which nothing is promised.
const most = (1<<31 - 1) / 80

// small is a value, and how many parts it has, as far as they are counted. Equal parts share memory in it: it may have more of them than there is room for.
type small struct {
	parts int
	value api.Value
}

// around is what is made of others.
func (s small) around(kid small) small {
	s.parts = min(s.parts+kid.parts, most+1)
	s.value.Kids = append(s.value.Kids, kid.value)
	return s
}

// told is the value as new memory, if it can be.
func (s small) told() api.Value {
	if s.parts > most {
		return s.value
	}
	return newValue(s.value)
}
