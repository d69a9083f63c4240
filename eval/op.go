package eval

import (
	"handloom/api"
	"handloom/word"
)

func numberOf(n int64) api.Value { return api.Value{Kind: api.VaInt, Num: n} }

// textOf is the first bytes of a list as a text, as many as there may be.
func textOf(b []byte) api.Value {
	return api.Value{Kind: api.VaBytes, Bytes: newBytes(b[:min(len(b), api.MaxBytes)])}
}

func truthOf(yes bool) api.Value {
	if yes {
		return api.Value{Kind: api.VaCon, Name: "True"}
	}
	return api.Value{Kind: api.VaCon, Name: "False"}
}

// wanted is the types of the values that an operator wants; of what is no operator none.
func wanted(op int64) []api.Type {
	number, text := api.Type{Kind: api.TyInt}, api.Type{Kind: api.TyBytes}
	switch op {
	case api.OpAdd, api.OpSub, api.OpMul, api.OpDiv, api.OpMod, api.OpLt, api.OpLe, api.OpEq:
		return []api.Type{number, number}
	case api.OpLen:
		return []api.Type{text}
	case api.OpAt:
		return []api.Type{text, number}
	case api.OpCat:
		return []api.Type{text, text}
	case api.OpCut:
		return []api.Type{text, number, number}
	}
	return nil
}

// wrapped is a value whose number, whatever it is, is one of 63 bits.
func wrapped(v api.Value) api.Value {
	if v.Kind == api.VaInt {
		v.Num = word.Wrap(v.Num)
	}
	return v
}

// done is an operator of values that are such as it wants.
func done(op int64, l []api.Value) api.Value {
	a := l[0]
	switch op {
	case api.OpLt, api.OpLe, api.OpEq:
		return truthOf(word.Asks(int(op), a.Num, l[1].Num))
	case api.OpLen:
		return numberOf(int64(len(a.Bytes)))
	case api.OpAt:
		return numberOf(byteAt(a.Bytes, l[1].Num))
	case api.OpCat:
		return textOf(append(newBytes(a.Bytes), l[1].Bytes...))
	case api.OpCut:
		return textOf(cut(a.Bytes, l[1].Num, l[2].Num))
	}
	return numberOf(word.Do(int(op), a.Num, l[1].Num))
}

// byteAt is a byte by its place; -1: there is none.
func byteAt(b []byte, at int64) int64 {
	if at < 0 || at >= int64(len(b)) {
		return -1
	}
	return int64(b[at])
}

// cut is the bytes from a place on, at most so many.
func cut(b []byte, at, count int64) []byte {
	b = b[min(max(at, 0), int64(len(b))):]
	return b[:min(max(count, 0), int64(len(b)))]
}
