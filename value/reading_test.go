package value_test

import (
	"bytes"
	"reflect"
	"slices"
	"strconv"
	"strings"

	"handloom/api"
	"handloom/ast"
	"handloom/parse"
)

// The chapter's words once more, by values built anew, reflection and texts: another reading than the program's, to hold it against.

// bare is what a value has by its kind; all else is zero or empty in it.
func bare(v api.Value) (api.Value, bool) {
	switch v.Kind {
	case api.VaInt:
		return num(v.Num), -1<<62 <= v.Num && v.Num < 1<<62
	case api.VaBytes:
		return text(string(v.Bytes)), len(v.Bytes) < 65
	case api.VaCon:
		return con(v.Name, v.Kids...), true
	case api.VaTuple:
		return tuple(v.Kids...), true
	}
	return api.Value{}, false
}

func deepness(v api.Value) int {
	most := 0
	for _, kid := range v.Kids {
		most = max(most, deepness(kid))
	}
	return most + 1
}

func wantOf(l []api.Data, v api.Value, t api.Type) bool { return deepness(v) <= 1000 && isOf(l, v, t) }

func isOf(l []api.Data, v api.Value, t api.Type) bool {
	b, ok := bare(v)
	if !ok || b.Num != v.Num || b.Name != v.Name || len(b.Bytes) != len(v.Bytes) || len(b.Kids) != len(v.Kids) {
		return false
	}
	switch t.Kind {
	case api.TyInt:
		return v.Kind == api.VaInt
	case api.TyBytes:
		return v.Kind == api.VaBytes
	case api.TyTuple:
		return v.Kind == api.VaTuple && areOf(l, v.Kids, t.Parts)
	case api.TyData:
		return v.Kind == api.VaCon && slices.ContainsFunc(consOf(l, t.Name), func(c api.Con) bool { return c.Name == v.Name && areOf(l, v.Kids, c.Fields) })
	}
	return false
}

// consOf is the constructors of the first type of a name.
func consOf(l []api.Data, name string) []api.Con {
	for _, d := range l {
		if d.Name == name {
			return d.Cons
		}
	}
	return nil
}

func areOf(l []api.Data, kids []api.Value, parts []api.Type) bool {
	if len(kids) != len(parts) {
		return false
	}
	for i := range kids {
		if !isOf(l, kids[i], parts[i]) {
			return false
		}
	}
	return true
}

// words is a value's, however many.
func words(v api.Value) int {
	count := 2
	switch {
	case v.Kind == api.VaInt, v.Kind == api.VaCon && len(v.Kids) == 0:
		return 0
	case v.Kind == api.VaBytes:
		for eighth := 0; eighth < len(v.Bytes); eighth += 8 {
			count++
		}
		return count
	}
	for _, kid := range v.Kids {
		count += 1 + words(kid)
	}
	return count
}

func wantSize(v api.Value, most int) int {
	most = max(most, 0)
	if w := words(v); w <= most {
		return w
	}
	return most + 1
}

func wantSame(a, b api.Value) bool { return reflect.DeepEqual(trim(a), trim(b)) }

// written are the kinds of expressions that are values, by these.
func written() map[int]int {
	return map[int]int{api.VaInt: api.ExInt, api.VaBytes: api.ExBytes, api.VaCon: api.ExCon, api.VaTuple: api.ExTuple}
}

// exprsOf is the expressions that values are, if these are all of the kinds that can be.
func exprsOf(l []api.Value) ([]api.Expr, bool) {
	var made []api.Expr
	for _, v := range l {
		kind, ok := written()[v.Kind]
		kids, all := exprsOf(v.Kids)
		if !ok || !all {
			return nil, false
		}
		made = append(made, api.Expr{Kind: kind, Num: v.Num, Bytes: bytes.Clone(v.Bytes), Name: v.Name, Kids: kids})
	}
	return made, true
}

func wantExpr(v api.Value) (api.Expr, bool) {
	l, ok := exprsOf([]api.Value{v})
	if !ok || !ast.FitExpr(l[0]) {
		return api.Expr{}, false
	}
	return trim(l[0]), true
}

// spelled is a value's tokens.
func spelled(v api.Value) []string {
	switch v.Kind {
	case api.VaInt:
		if v.Num < 0 {
			return []string{"~", strconv.FormatInt(-v.Num, 10)}
		}
		return []string{strconv.FormatInt(v.Num, 10)}
	case api.VaBytes:
		return []string{quoted(v.Bytes)}
	}
	var l []string
	for i, kid := range v.Kids {
		l = append(l, []string{"(", ","}[min(i, 1)])
		l = append(l, spelled(kid)...)
	}
	if l != nil {
		l = append(l, ")")
	}
	if v.Kind == api.VaCon {
		return slices.Concat([]string{v.Name}, l)
	}
	return l
}

func quoted(l []byte) string {
	s := ""
	for _, b := range l {
		switch {
		case b < 32 || b > 126:
			s += "\\x" + strconv.FormatInt(int64(b)+256, 16)[1:]
		case strings.ContainsRune("\"\\", rune(b)):
			s += "\\" + string(rune(b))
		default:
			s += string(rune(b))
		}
	}
	return "\"" + s + "\""
}

func wantText(v api.Value) string {
	if _, ok := wantExpr(v); !ok {
		return ""
	}
	return strings.Join(spelled(v), " ")
}

// firstOther is the first part that is no value.
func firstOther(l []api.Expr) (api.Expr, bool) {
	for _, e := range l {
		if !slices.Contains([]int{api.ExInt, api.ExBytes, api.ExCon, api.ExTuple}, e.Kind) {
			return e, true
		}
		if other, ok := firstOther(e.Kids); ok {
			return other, true
		}
	}
	return api.Expr{}, false
}

func wantRead(src string) (api.Value, api.Fault) {
	e, f := parse.Expr(src)
	if f != (api.Fault{}) {
		return api.Value{}, f
	}
	if other, ok := firstOther([]api.Expr{e}); ok {
		return api.Value{}, api.Fault{Err: api.ErrForm, At: other.At}
	}
	return valuesOf([]api.Expr{e})[0], api.Fault{}
}

func valuesOf(l []api.Expr) []api.Value {
	var made []api.Value
	for _, e := range l {
		for kind, written := range written() {
			if e.Kind == written {
				made = append(made, api.Value{Kind: kind, Num: e.Num, Bytes: bytes.Clone(e.Bytes), Name: e.Name, Kids: valuesOf(e.Kids)})
			}
		}
	}
	return made
}

// trim is a copy of anything, without lists that are empty.
func trim[T any](it T) T { return copied(it, 1) }

// twin is a copy of anything, just as it is.
func twin[T any](it T) T { return copied(it, 0) }

// copied leaves lists out that are shorter than least.
func copied[T any](it T, least int) T {
	to := reflect.New(reflect.TypeOf(it)).Elem()
	copyPart(to, reflect.ValueOf(it), least)
	return to.Interface().(T)
}

func copyPart(to, from reflect.Value, least int) {
	switch from.Kind() {
	case reflect.Struct:
		for i := range from.NumField() {
			copyPart(to.Field(i), from.Field(i), least)
		}
	case reflect.Slice:
		if from.IsNil() || from.Len() < least {
			return
		}
		to.Set(reflect.MakeSlice(from.Type(), from.Len(), from.Len()))
		for i := range from.Len() {
			copyPart(to.Index(i), from.Index(i), least)
		}
	default:
		to.Set(from)
	}
}
