package cover

// marks is a set of places from 0 on, which is never changed.
type marks []uint64

func (m marks) has(at int) bool { return at/64 < len(m) && m[at/64]>>(at%64)&1 == 1 }

// with is the same set with one place more.
func (m marks) with(at int) marks {
	made := make(marks, max(len(m), at/64+1))
	copy(made, m)
	made[at/64] |= 1 << (at % 64)
	return made
}
