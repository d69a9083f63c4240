package ast_test

import (
	"reflect"
	"regexp"
	"slices"
	"unicode/utf8"

	"handloom/api"
)

// The chapter's words once more, by patterns, reflection and lists: another reading than the program's, to hold it against.
var (
	smallForm = regexp.MustCompile(`^[a-z\x{80}-\x{10ffff}][a-zA-Z0-9_\x{80}-\x{10ffff}]*$`)
	greatForm = regexp.MustCompile(`^[A-Z][a-zA-Z0-9_\x{80}-\x{10ffff}]*$`)
)

const (
	most     = int64(1<<62 - 1)
	tooDeep  = 65
	manyDeep = 1 << 16
)

func languageWords() []string {
	return []string{
		"cap", "do", "else", "end", "for", "fun", "if", "in", "let", "match", "of", "on",
		"queue", "state", "then", "timers", "type", "with",
	}
}

func sound(s string) bool { return utf8.ValidString(s) && utf8.RuneCountInString(s) <= 24 }

func small(s string) bool {
	return sound(s) && smallForm.MatchString(s) && !slices.Contains(languageWords(), s)
}

func great(s string) bool { return sound(s) && greatForm.MatchString(s) }

func smallBut(s string, but ...string) bool { return small(s) && !slices.Contains(but, s) }

func dataName(s string) bool { return smallBut(s, "int", "bytes") }

func funName(s string) bool { return smallBut(s, "int", "bytes", "len", "at", "cat", "cut") }

func within(n, from, to int) bool { return from <= n && n <= to }

func numeral(n int64) bool { return -most <= n && n <= most }

// nothingElse tells whether what is left of a part, its own fields taken away, is zero or empty.
func nothingElse(rest any) bool {
	return reflect.DeepEqual(bare(rest), reflect.Zero(reflect.TypeOf(rest)).Interface())
}

func everyOne[T any](l []T, holds func(part T) bool) bool {
	return !slices.ContainsFunc(l, func(part T) bool { return !holds(part) })
}

func wantType(t api.Type, depth int) bool {
	rest := t
	rest.Kind = 0
	ok := depth < tooDeep
	switch t.Kind {
	case api.TyInt, api.TyBytes:
	case api.TyData:
		ok, rest.Name = ok && dataName(t.Name), ""
	case api.TyTuple:
		ok, rest.Parts = ok && within(len(t.Parts), 2, 6), nil
	default:
		return false
	}
	return ok && nothingElse(rest) && everyOne(t.Parts, func(p api.Type) bool { return wantType(p, depth+1) })
}

func wantPat(p api.Pat, depth int) bool {
	rest := p
	rest.Kind = 0
	ok := depth < tooDeep
	switch p.Kind {
	case api.PtAny:
	case api.PtVar:
		ok, rest.Name = ok && small(p.Name), ""
	case api.PtInt:
		ok, rest.Num = ok && numeral(p.Num), 0
	case api.PtCon:
		ok, rest.Name, rest.Kids = ok && great(p.Name) && within(len(p.Kids), 0, 6), "", nil
	case api.PtTuple:
		ok, rest.Kids = ok && within(len(p.Kids), 2, 6), nil
	default:
		return false
	}
	return ok && nothingElse(rest) && everyOne(p.Kids, func(k api.Pat) bool { return wantPat(k, depth+1) })
}

// wantOwn tells whether an expression has what its kind has, and what is left of it.
func wantOwn(e api.Expr) (ok bool, rest api.Expr) {
	rest = e
	rest.Kind, rest.Kids = 0, nil
	kids := len(e.Kids)
	switch e.Kind {
	case api.ExInt:
		ok, rest.Num = kids == 0 && numeral(e.Num), 0
	case api.ExBytes:
		ok, rest.Bytes = kids == 0 && len(e.Bytes) <= 64, nil
	case api.ExVar:
		ok, rest.Name = kids == 0 && (small(e.Name) || e.Name == "state"), ""
	case api.ExCon:
		ok, rest.Name = kids <= 6 && great(e.Name), ""
	case api.ExTuple:
		ok = within(kids, 2, 6)
	case api.ExCall:
		ok, rest.Name = within(kids, 1, 6) && funName(e.Name), ""
	case api.ExLet:
		ok, rest.Name = kids == 2 && small(e.Name), ""
	case api.ExIf:
		ok = kids == 3
	case api.ExMatch:
		ok, rest.Arms = kids == 1 && within(len(e.Arms), 1, 32), nil
	case api.ExOp:
		want := map[int64]int{0: 2, 1: 2, 2: 2, 3: 2, 4: 2, 5: 2, 6: 2, 7: 2, 8: 1, 9: 2, 10: 2, 11: 3}
		ok, rest.Num = want[e.Num] > 0 && kids == want[e.Num], 0
	case api.ExFor:
		ok, rest.Num, rest.Name = kids == 2 && 0 <= e.Num && e.Num <= 1000 && small(e.Name), 0, ""
	}
	return ok, rest
}

func wantExpr(e api.Expr, depth int) bool {
	ok, rest := wantOwn(e)
	return ok && depth < tooDeep && nothingElse(rest) &&
		everyOne(e.Kids, func(k api.Expr) bool { return wantExpr(k, depth+1) }) &&
		everyOne(e.Arms, func(a api.Arm) bool { return wantPat(a.Pat, depth+1) && wantExpr(a.Body, depth+1) })
}

func wantParam(p api.Param) bool { return small(p.Name) && wantType(p.Type, 1) }

func wantData(d api.Data) bool {
	return dataName(d.Name) && within(len(d.Cons), 1, 16) && everyOne(d.Cons, func(c api.Con) bool {
		return great(c.Name) && len(c.Fields) <= 6 && everyOne(c.Fields, func(t api.Type) bool { return wantType(t, 1) })
	})
}

func wantFun(f api.Fun) bool {
	return funName(f.Name) && within(len(f.Params), 1, 6) && everyOne(f.Params, wantParam) &&
		wantType(f.Result, 1) && wantExpr(f.Body, 1)
}

func wantHand(h api.Hand) bool {
	return small(h.Name) && wantParam(h.Param) && within(h.Cap, 0, 64) && wantExpr(h.Body, 1)
}

func wantProg(p api.Prog) bool {
	return len(p.Datas) <= 32 && everyOne(p.Datas, wantData) && len(p.Funs) <= 48 && everyOne(p.Funs, wantFun) &&
		within(p.Queue, 1, 32) && within(p.Timers, 0, 32) && wantType(p.State, 1) && within(p.Cap, 0, 256) &&
		wantExpr(p.Init, 1) && len(p.Hands) <= 16 && everyOne(p.Hands, wantHand)
}

// bare is a copy of any tree, with all places zero, and no list that is empty.
func bare[T any](tree T) T {
	out := reflect.New(reflect.TypeOf(tree)).Elem()
	copyTree(out, reflect.ValueOf(tree), true)
	return out.Interface().(T)
}

// twin is a copy of any tree, just as it is.
func twin[T any](tree T) T {
	out := reflect.New(reflect.TypeOf(tree)).Elem()
	copyTree(out, reflect.ValueOf(tree), false)
	return out.Interface().(T)
}

func copyTree(to, from reflect.Value, isBare bool) {
	switch from.Kind() {
	case reflect.Struct:
		if isBare && from.Type() == reflect.TypeFor[api.Pos]() {
			return
		}
		for i := range from.NumField() {
			copyTree(to.Field(i), from.Field(i), isBare)
		}
	case reflect.Slice:
		if from.IsNil() || isBare && from.Len() == 0 {
			return
		}
		to.Set(reflect.MakeSlice(from.Type(), from.Len(), from.Len()))
		for i := range from.Len() {
			copyTree(to.Index(i), from.Index(i), isBare)
		}
	default:
		to.Set(from)
	}
}

func wantSame[T any](a, b T) bool { return reflect.DeepEqual(bare(a), bare(b)) }

// kindsIn counts all structs of a type in a tree.
func kindsIn[S any](v reflect.Value) int {
	n := 0
	switch v.Kind() {
	case reflect.Struct:
		if v.Type() == reflect.TypeFor[S]() {
			n++
		}
		for i := range v.NumField() {
			n += kindsIn[S](v.Field(i))
		}
	case reflect.Slice:
		for i := range v.Len() {
			n += kindsIn[S](v.Index(i))
		}
	}
	return n
}

// varsOf is the names of all PtVars in a pattern.
func varsOf(p api.Pat) []string {
	var l []string
	if p.Kind == api.PtVar {
		l = []string{p.Name}
	}
	for _, k := range p.Kids {
		l = slices.Concat(l, varsOf(k))
	}
	return l
}

// leans is each ExVar's Name that is not among those given, as often as it stands there.
func leans(e api.Expr, given []string) []string {
	var l []string
	if e.Kind == api.ExVar && !slices.Contains(given, e.Name) {
		l = append(l, e.Name)
	}
	for i, k := range e.Kids {
		inner := given
		if i == 1 && (e.Kind == api.ExLet || e.Kind == api.ExFor) {
			inner = slices.Concat(given, []string{e.Name})
		}
		l = slices.Concat(l, leans(k, inner))
	}
	for _, a := range e.Arms {
		l = slices.Concat(l, leans(a.Body, slices.Concat(given, varsOf(a.Pat))))
	}
	return l
}

func wantFree(e api.Expr) []string {
	var l []string
	for _, name := range leans(e, nil) {
		if !slices.Contains(l, name) {
			l = append(l, name)
		}
	}
	return l
}
