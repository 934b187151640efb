// Package unit is layer 1: see shared/doc/01-unit.md.
package unit

import (
	"math/bits"

	"stickful/api"
)

// most is the greatest magnitude of a length that fits.
const most = 1 << 62

// May reports whether n is a valid input length.
func May(n int64) bool { return -api.MaxUnit <= n && n <= api.MaxUnit }

// Sum returns the exact sum, or ErrOver if it does not fit.
func Sum(l ...int64) (int64, api.Errno) { return narrow(total(l...)) }

// Scale returns n times by, divided by of, rounded: halfway the greater number counts.
func Scale(n, by, of int64) (int64, api.Errno) {
	if of < 1 {
		return 0, api.ErrArg
	}
	whole := uint64(of)
	below := (n < 0) != (by < 0)
	// Magnitudes are divided, so halfway a quotient below zero goes towards zero, and one above it away from it.
	onward := func(rest uint64) bool {
		left := whole - rest
		if below {
			return rest > left
		}
		return rest >= left
	}
	high, low := bits.Mul64(magnitude(n), magnitude(by))
	if high >= whole { // Div64 panics where the quotient needs a second word
		return 0, api.ErrOver
	}
	quotient, rest := bits.Div64(high, low, whole)
	if quotient > most { // one more could wrap round to 0
		return 0, api.ErrOver
	}
	if onward(rest) {
		quotient++
	}
	if below {
		return Sum(-int64(quotient))
	}
	return Sum(int64(quotient))
}

// Halves returns the greatest whole number that is not above half of n, and n minus that.
func Halves(n int64) (low, high int64) {
	low = n >> 1 // a shift rounds down for either sign, a division towards zero
	return low, n - low
}

// Stop returns the least multiple of step that is above x.
func Stop(x, step int64) (int64, api.Errno) {
	if step < 1 {
		return 0, api.ErrArg
	}
	// The language's remainder has the sign of x; what is wanted is the distance from the multiple below.
	past := func(rest int64) int64 {
		if rest < 0 {
			return rest + step
		}
		return rest
	}
	return Sum(x, step, -past(x%step))
}

// total adds in two words: one would lose numbers whose sum fits, but not every sum on the way to it.
func total(l ...int64) (high int64, low uint64) {
	for _, n := range l {
		var carry uint64
		low, carry = bits.Add64(low, uint64(n), 0)
		high += n>>63 + int64(carry) // n>>63 is the upper word of n
	}
	return high, low
}

// narrow returns the number of two words as one, or ErrOver if it does not fit.
func narrow(high int64, low uint64) (int64, api.Errno) {
	n := int64(low)
	if high != n>>63 || n < -most || n > most {
		return 0, api.ErrOver
	}
	return n, api.OK
}

// magnitude is unsigned, so that the least number has one, too.
func magnitude(n int64) uint64 {
	if n < 0 {
		return -uint64(n)
	}
	return uint64(n)
}
