package value

import "iter"

// parts goes through a whole and all of its parts, each with how deep it is: itself ahead of its kids, these from the left. A part is asked for its kids only when it was told: so nothing is looked at of what is left early.
func parts[T any](whole T, kids func(part T) []T) iter.Seq2[int, T] {
	return func(yield func(depth int, part T) bool) {
		left := [][]T{{whole}} // of each depth those that are not told yet
		for len(left) > 0 {
			depth := len(left)
			row := left[depth-1]
			if len(row) == 0 {
				left = left[:depth-1]
				continue
			}
			if !yield(depth, row[0]) {
				return
			}
			left[depth-1] = row[1:]
			left = append(left, kids(row[0]))
		}
	}
}

// each is a new list, of what is made of each part; of an empty one none.
func each[T, U any](list []T, change func(part T) U) []U {
	var made []U
	for _, part := range list {
		made = append(made, change(part))
	}
	return made
}
