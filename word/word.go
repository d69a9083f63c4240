// Package word is layer 1: numbers of 63 bits, and words. See shared/doc/01-word.md.
package word

import (
	"math"

	"handloom/api"
)

// number is from -2^62 to 2^62 - 1. Only wrap and the methods make one, so that a method may trust its range.
type number int64

// wrap drops the topmost bit, which says nothing modulo 2^63; the one below it becomes the sign.
func wrap(n int64) number { return number(n << 1 >> 1) }

func (a number) plus(b number) number { return wrap(int64(a + b)) }

func (a number) minus(b number) number { return wrap(int64(a - b)) }

// times may go round in 64 bits: what is lost is a multiple of 2^64, and so of 2^63.
func (a number) times(b number) number { return wrap(int64(a * b)) }

// over wraps for the sake of -2^62 by -1, whose quotient is one too great.
func (a number) over(b number) number {
	if b == 0 {
		return 0
	}
	return wrap(int64(a / b))
}

func (a number) rest(b number) number {
	if b == 0 {
		return a
	}
	return a % b
}

func (a number) nothing(number) number { return 0 }

func (a number) below(b number) bool { return a < b }

func (a number) upTo(b number) bool { return a <= b }

func (a number) same(b number) bool { return a == b }

func (a number) never(number) bool { return false }

func (a number) word() uint64 { return uint64(a)<<1 | 1 }

// reckoner finds the method that does an operator.
func reckoner(op int) func(a, b number) number {
	switch op {
	case api.OpAdd:
		return number.plus
	case api.OpSub:
		return number.minus
	case api.OpMul:
		return number.times
	case api.OpDiv:
		return number.over
	case api.OpMod:
		return number.rest
	}
	return number.nothing
}

// asker finds the method that answers a comparison.
func asker(op int) func(a, b number) bool {
	switch op {
	case api.OpLt:
		return number.below
	case api.OpLe:
		return number.upTo
	case api.OpEq:
		return number.same
	}
	return number.never
}

// Wrap is the number that n stands for: from -2^62 to 2^62 - 1, a multiple of 2^63 away.
func Wrap(n int64) int64 { return int64(wrap(n)) }

// Do is an operator of the numbers that a and b stand for: api.OpAdd to api.OpMod; of others 0.
func Do(op int, a, b int64) int64 { return int64(reckoner(op)(wrap(a), wrap(b))) }

// Asks is a comparison of the numbers that a and b stand for: api.OpLt, OpLe, OpEq; of others false.
func Asks(op int, a, b int64) bool { return asker(op)(wrap(a), wrap(b)) }

// Imm is the word of the number that n stands for.
func Imm(n int64) uint64 { return number.word(wrap(n)) }

// Ptr is a place as a word; 0 is no place, and no word of one.
func Ptr(at uint32) uint64 { return uint64(at) << 1 }

// Num is a word's number; false: it is none.
func Num(w uint64) (int64, bool) {
	if w&1 == 0 {
		return 0, false
	}
	return int64(w) >> 1, true
}

// At is a word's place; false: it is none.
func At(w uint64) (uint32, bool) {
	if w == 0 || w&1 == 1 || w>>1 > math.MaxUint32 {
		return 0, false
	}
	return uint32(w >> 1), true
}
