package poly_test

import (
	"fmt"
	"reflect"
	"strconv"
	"strings"
	"testing"

	"handloom/api"
)

// term reads one such as "3 a^2 b": the letters a to l are the unknowns 0 to 11.
func term(src string) api.Term {
	t := api.Term{Coef: 1}
	for i, part := range strings.Fields(src) {
		name, power, is := strings.Cut(part, "^")
		if n, err := strconv.ParseInt(part, 0, 64); err == nil && i == 0 {
			t.Coef = n
			continue
		}
		n := 1
		if is {
			n, _ = strconv.Atoi(power)
		}
		t.Exps[name[0]-'a'] = uint8(n)
	}
	return t
}

// sum is what is written, term by term, also if it can't be.
func sum(src string) api.Poly {
	var p api.Poly
	for _, part := range strings.Split(src, "+") {
		if strings.TrimSpace(part) != "" {
			p = append(p, term(part))
		}
	}
	return p
}

func sums(srcs ...string) []api.Poly {
	var l []api.Poly
	for _, src := range srcs {
		l = append(l, sum(src))
	}
	return l
}

// powersOf is the sum of the powers of an unknown from one to another, each once.
func powersOf(k, from, to int) api.Poly {
	var p api.Poly
	for e := from; e <= to; e++ {
		t := api.Term{Coef: 1}
		t.Exps[k] = uint8(e)
		p = append(p, t)
	}
	return p
}

// full is so many terms that are not alike.
func full(count int) api.Poly {
	var p api.Poly
	for i := range count {
		t := api.Term{Coef: 1}
		t.Exps[1], t.Exps[4], t.Exps[11] = uint8(i/36), uint8(i/6%6), uint8(i%6)
		p = append(p, t)
	}
	return p
}

// answer is what most calls tell.
type answer struct {
	p   api.Poly
	err api.Errno
}

func answered(p api.Poly, err api.Errno) answer { return answer{p, err} }

func tooGreat() answer { return answer{nil, api.ErrBig} }

func right(p api.Poly) answer { return answer{p, api.OK} }

// wants holds what was told against what is asked for.
func wants[T any](t *testing.T, what any, got, want T) {
	t.Helper()
	if !reflect.DeepEqual(got, want) {
		t.Errorf("%s: %s was told, want %s", short(what), short(got), short(want))
	}
}

// twin is a copy that shares no memory with what it is of.
func twin[T any](it T) T {
	out := reflect.New(reflect.TypeOf(it)).Elem()
	copyPart(out, reflect.ValueOf(it))
	return out.Interface().(T)
}

func copyPart(to, from reflect.Value) {
	if from.Kind() != reflect.Slice {
		to.Set(from)
		return
	}
	if from.IsNil() {
		return
	}
	to.Set(reflect.MakeSlice(from.Type(), from.Len(), from.Len()))
	for i := range from.Len() {
		copyPart(to.Index(i), from.Index(i))
	}
}

func short(it any) string {
	s := fmt.Sprintf("%+v", it)
	return s[:min(len(s), 1500)]
}
