package show_test

import (
	"strconv"
	"strings"

	"handloom/api"
)

// The chapter's words once more, as texts that are put together: another reading than the program's, to hold it against. Of trees that are not fit it tells anything.

func wantType(t api.Type) string {
	switch t.Kind {
	case api.TyInt:
		return "int"
	case api.TyBytes:
		return "bytes"
	case api.TyData:
		return t.Name
	}
	return "( " + joined(" * ", t.Parts, wantType) + " )"
}

func joined[T any](between string, l []T, want func(T) string) string {
	var parts []string
	for _, x := range l {
		parts = append(parts, want(x))
	}
	return strings.Join(parts, between)
}

func wantNum(n int64) string {
	return strings.Replace(strconv.FormatInt(n, 10), "-", "~ ", 1)
}

func wantText(l []byte) string {
	s := `"`
	for _, b := range l {
		switch {
		case b == '"', b == '\\':
			s += `\` + string(rune(b))
		case b < 32 || b > 126:
			s += `\x` + string("0123456789abcdef"[b/16]) + string("0123456789abcdef"[b%16])
		default:
			s += string(rune(b))
		}
	}
	return s + `"`
}

// wantHeld is a name, and what stands behind it in parentheses.
func wantHeld(name, within string) string {
	if within == "" {
		return name
	}
	return strings.TrimPrefix(name+" ( "+within+" )", " ")
}

func wantPat(p api.Pat) string {
	all := joined(" , ", p.Kids, wantPat)
	return []string{"_", p.Name, wantNum(p.Num), wantHeld(p.Name, all), wantHeld("", all)}[p.Kind]
}

func wantExpr(e api.Expr) string {
	var k []string
	for _, kid := range e.Kids {
		k = append(k, wantExpr(kid))
	}
	all := strings.Join(k, " , ")
	switch e.Kind {
	case api.ExInt:
		return wantNum(e.Num)
	case api.ExBytes:
		return wantText(e.Bytes)
	case api.ExTuple:
		return wantHeld("", all)
	case api.ExLet:
		return "let " + e.Name + " = " + k[0] + " in " + k[1]
	case api.ExIf:
		return "if " + k[0] + " then " + k[1] + " else " + k[2]
	case api.ExMatch:
		return "match " + k[0] + " with " + joined(" | ", e.Arms, wantArm) + " end"
	case api.ExFor:
		return "for " + wantNum(e.Num) + " with " + e.Name + " = " + k[0] + " do " + k[1]
	case api.ExOp:
		sign := strings.Fields("+ - * / % < <= == len at cat cut")[e.Num]
		if e.Num >= api.OpLen {
			return wantHeld(sign, all)
		}
		return wantPart(e, 0, k[0]) + " " + sign + " " + wantPart(e, 1, k[1])
	}
	return wantHeld(e.Name, all)
}

func wantArm(a api.Arm) string { return wantPat(a.Pat) + " -> " + wantExpr(a.Body) }

// wantPart is one of the two parts of a sign, as it stands by itself, with parentheses if the chapter wants them.
func wantPart(e api.Expr, side int, bare string) string {
	kid := e.Kids[side]
	ranks := []int{2, 2, 3, 3, 3, 1, 1, 1}
	round := kid.Kind == api.ExLet || kid.Kind == api.ExIf || kid.Kind == api.ExMatch || kid.Kind == api.ExFor
	if kid.Kind == api.ExOp && kid.Num < api.OpLen {
		outer, inner := ranks[e.Num], ranks[kid.Num]
		round = side == 0 && outer > inner || side == 1 && outer >= inner || outer == 1 && inner == 1
	}
	if round {
		return "( " + bare + " )"
	}
	return bare
}

func wantCon(c api.Con) string {
	if len(c.Fields) == 0 {
		return c.Name
	}
	return c.Name + " of " + joined(" * ", c.Fields, wantType)
}

func wantParam(p api.Param) string { return p.Name + " : " + wantType(p.Type) }

func wantProg(p api.Prog) string {
	var l []string
	for _, d := range p.Datas {
		l = append(l, "type "+d.Name+" = "+joined(" | ", d.Cons, wantCon))
	}
	for _, f := range p.Funs {
		l = append(l, "fun "+f.Name+" ( "+joined(" , ", f.Params, wantParam)+" ) : "+wantType(f.Result)+" = "+wantExpr(f.Body))
	}
	l = append(l, "queue "+strconv.Itoa(p.Queue))
	l = append(l, "timers "+strconv.Itoa(p.Timers))
	l = append(l, "state "+wantType(p.State)+" cap "+strconv.Itoa(p.Cap)+" = "+wantExpr(p.Init))
	for _, h := range p.Hands {
		l = append(l, "on "+h.Name+" ( "+wantParam(h.Param)+" cap "+strconv.Itoa(h.Cap)+" ) = "+wantExpr(h.Body))
	}
	return strings.Join(l, "\n") + "\n"
}
