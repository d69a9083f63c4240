package ast

// fold goes through a list from the left: of each part, with its place, and of what was made ahead of it, step makes what is handed on.
func fold[T, A any](list []T, made A, step func(made A, at int, part T) A) A {
	for at, part := range list {
		made = step(made, at, part)
	}
	return made
}

// all tells whether every part is right; none behind a wrong one is looked at.
func all[T any](list []T, right func(part T) bool) bool {
	return fold(list, true, func(ok bool, _ int, part T) bool { return ok && right(part) })
}

// alike tells whether two lists have the same parts.
func alike[T any](a, b []T, same func(a, b T) bool) bool {
	return fold(a, len(a) == len(b), func(ok bool, at int, part T) bool { return ok && same(part, b[at]) })
}

// each is a new list, of what is made of each part; of an empty one none.
func each[T any](list []T, change func(part T) T) []T {
	return fold(list, []T(nil), func(made []T, _ int, part T) []T { return append(made, change(part)) })
}
