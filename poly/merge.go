package poly

import "slices"

// merge puts two rising lists together to one: of two parts that are alike both makes one. It is new memory.
func merge[S ~[]T, T any](a, b S, order func(x, y T) int, both func(x, y T) T) S {
	l := slices.Grow(S(nil), len(a)+len(b))
	for len(a) > 0 && len(b) > 0 {
		c := order(a[0], b[0])
		switch {
		case c < 0:
			l, a = append(l, a[0]), a[1:]
		case c > 0:
			l, b = append(l, b[0]), b[1:]
		default:
			l, a, b = append(l, both(a[0], b[0])), a[1:], b[1:]
		}
	}
	return append(append(l, a...), b...)
}
