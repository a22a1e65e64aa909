// Package num is layer 1: see shared/doc/01-num.md.
package num

import (
	"reeve/api"
)

// Right tells whether a number is from a least one to a greatest one.
func Right(n, least, most int) bool { return n >= least && n <= most }

// Span is the nearest number from a least one to a greatest one. The least one is applied last, so that it wins where the two limits cross.
func Span(n, least, most int) int { return max(least, min(n, most)) }

// checked is what a step makes of two numbers, or 0 where the step failed: all steps go through here, so that none lets a wrapped value out.
func checked(a, b int, step func(a, b int) (int, bool)) (int, bool) {
	n, ok := step(a, b)
	if !ok {
		return 0, false
	}
	return n, true
}

// Add is a sum, if it is a number.
func Add(a, b int) (int, bool) {
	return checked(a, b, func(a, b int) (int, bool) {
		n := a + b
		// A sum that wraps moves away from a on the wrong side.
		return n, (n > a) == (b > 0)
	})
}

// Sub is a difference, if it is a number. It is not Add of -b, because -MinInt is no number although MinInt may be subtracted from a negative one.
func Sub(a, b int) (int, bool) {
	return checked(a, b, func(a, b int) (int, bool) {
		n := a - b
		return n, (n < a) == (b > 0)
	})
}

// Mul is a product, if it is a number.
func Mul(a, b int) (int, bool) {
	return checked(a, b, func(a, b int) (int, bool) {
		if b == 0 {
			return 0, true
		}
		n := a * b
		// The division undoes every product that did not wrap, and none that did, except MinInt by -1: there it wraps, too.
		return n, n/b == a && !(a == api.MinInt && b == -1)
	})
}

// Sum is the sum of all, if each step is a number.
func Sum(l ...int) (int, bool) {
	total := 0
	for _, n := range l {
		next, ok := Add(total, n)
		if !ok {
			return 0, false
		}
		total = next
	}
	return total, true
}

// Later is a tick so many ticks later. Both parts are limited first, so that their sum cannot wrap.
func Later(tick, by int) int {
	return Span(Span(tick, 0, api.MaxTick)+Span(by, 0, api.MaxTick), 0, api.MaxTick)
}
