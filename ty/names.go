package ty

import "handloom/api"

// numbers is types' numbers by their names: of several with one name the first one's, as Find tells it.
type numbers map[string]int

func numbersOf(l []api.Data) numbers {
	n := numbers{}
	for at, d := range l {
		if _, ok := n[d.Name]; !ok {
			n[d.Name] = at
		}
	}
	return n
}

// know tells whether all names in a type are types.
func (n numbers) know(t api.Type) bool {
	if t.Kind == api.TyData {
		if _, ok := n[t.Name]; !ok {
			return false
		}
	}
	return n.knowAll(t.Parts)
}

func (n numbers) knowAll(l []api.Type) bool {
	for _, t := range l {
		if !n.know(t) {
			return false
		}
	}
	return true
}

// given is how often names were given.
type given map[string]int

// again gives a name, and tells whether it was given ahead.
func (g given) again(name string) bool {
	g[name]++
	return g[name] > 1
}
