package ty

import "handloom/api"

// always is the types that each program has.
func always() []api.Data {
	number, text, act := api.Type{Kind: api.TyInt}, api.Type{Kind: api.TyBytes}, api.Type{Kind: api.TyData, Name: "act"}
	return []api.Data{
		{Name: "bool", Cons: []api.Con{{Name: "False"}, {Name: "True"}}},
		{Name: "act", Cons: []api.Con{
			{Name: "Done"},
			{Name: "Say", Fields: []api.Type{number, act}},
			{Name: "Tell", Fields: []api.Type{text, act}},
			{Name: "Arm", Fields: []api.Type{number, number, act}},
			{Name: "Stop", Fields: []api.Type{number, act}},
		}},
	}
}

// each is a new list, of what is made of each part; of an empty one none.
func each[T, U any](list []T, change func(part T) U) []U {
	var made []U
	for _, part := range list {
		made = append(made, change(part))
	}
	return made
}

func newType(t api.Type) api.Type {
	t.Parts = each(t.Parts, newType)
	return t
}

func newCon(c api.Con) api.Con {
	c.Fields = each(c.Fields, newType)
	return c
}

func newData(d api.Data) api.Data {
	d.Cons = each(d.Cons, newCon)
	return d
}
