// Package sat is layer 1: whole numbers from 0 on that stay where they would be too great (see shared/doc/01-sat.md).
package sat

import (
	"math/bits"

	"sandglass/api"
)

// Add is a and b together, kept.
func Add(a, b uint64) uint64 {
	sum, carry := bits.Add64(a, b, 0)
	if carry != 0 {
		return api.Never
	}
	return sum
}

// Sub is a less b, kept.
func Sub(a, b uint64) uint64 {
	if a < b {
		return 0
	}
	return a - b
}

// Mul is a times b, kept.
func Mul(a, b uint64) uint64 {
	high, low := bits.Mul64(a, b)
	if high != 0 {
		return api.Never
	}
	return low
}

// Down is the greatest whole number that is not above a times b by c, kept; Never, if c is 0.
func Down(a, b, c uint64) uint64 {
	down := downBy(c)
	high, low := bits.Mul64(a, b)
	return down(high, low)
}

// Up is the least whole number that is not below a times b by c, kept; Never, if c is 0.
func Up(a, b, c uint64) uint64 {
	down := downBy(c)
	high, low := bits.Mul64(a, b)
	// One less than c on top takes all that c does not divide past the next multiple. The product's upper half is at most Never - 1, so the carry has room; and c - 1 may wrap at c 0, where down looks at c alone.
	low, carry := bits.Add64(low, c-1, 0)
	return down(high+carry, low)
}

// downBy tells how a number of two halves is rounded down to how often c is in it, kept.
func downBy(c uint64) func(high, low uint64) uint64 {
	return func(high, low uint64) uint64 {
		// With as much as c in the upper half the quotient needs more than 64 bits; c 0 always ends here, so that nothing is divided by it.
		if high >= c {
			return api.Never
		}
		quotient, _ := bits.Div64(high, low, c)
		return quotient
	}
}

// Clamp is x, held between low and high; low counts if the two are crossed.
func Clamp(x, low, high uint64) uint64 {
	if x < low || high < low {
		return low
	}
	if x > high {
		return high
	}
	return x
}
