package eval

import (
	"slices"

	"handloom/api"
)

// mostBytes is how many bytes a value has at most that is told: of more nothing is promised. Each part of it has ownBytes beside its text's.
const (
	mostBytes = 1<<31 - 1
	ownBytes  = 80
)

// newTold is a value as new memory, of which no two lists share any. Only in one that is more than can be told equal parts go on sharing theirs, so that there is an end.
func newTold(v api.Value) api.Value {
	if room(mostBytes, &v) < 0 {
		return v
	}
	return newValue(v)
}

// room is how many of so many bytes a value leaves; as soon as that is below 0 it is not gone on with.
func room(left int, v *api.Value) int {
	left -= ownBytes + len(v.Bytes)
	for at := range v.Kids {
		if left < 0 {
			break
		}
		left = room(left, &v.Kids[at])
	}
	return left
}

func newBytes(l []byte) []byte { return append([]byte(nil), l...) }

func newValue(v api.Value) api.Value {
	v.Bytes = newBytes(v.Bytes)
	v.Kids = each(v.Kids, newValue)
	return v
}

// each is a new list, of what is made of each part; of an empty one none.
func each[T, U any](list []T, change func(part T) U) []U {
	made := slices.Grow([]U(nil), len(list))
	for _, part := range list {
		made = append(made, change(part))
	}
	return made
}
