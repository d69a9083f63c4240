package check

// numbering gives things numbers, from 0 on: to the same thing the same one.
type numbering[T comparable] struct {
	numbers map[T]int
	list    []T // the things, by their numbers
}

func newNumbering[T comparable](first ...T) numbering[T] {
	n := numbering[T]{numbers: map[T]int{}}
	for _, it := range first {
		n.of(it)
	}
	return n
}

func (n *numbering[T]) of(it T) int {
	at, ok := n.numbers[it]
	if !ok {
		at = len(n.list)
		n.numbers[it] = at
		n.list = append(n.list, it)
	}
	return at
}

// each is a new list, of what is made of each part; of an empty one none.
func each[T, U any](list []T, change func(part T) U) []U {
	var made []U
	for _, part := range list {
		made = append(made, change(part))
	}
	return made
}
