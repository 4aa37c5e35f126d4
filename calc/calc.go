// Package calc: sums that are told when they run over: see doc/01-calc.md.
package calc

import "math/bits"

// beyond is the least magnitude that no number of 64 bits with a sign has from 0 on; one below 0 still has it.
const beyond = uint64(1) << 63

// Add tells a plus b; no: the sum is no number of 64 bits with a sign.
func Add(a, b int) (int, bool) {
	sum := a + b
	// Only two of one side of 0 can run over, and what wraps round lands on the other side.
	if (a < 0) == (b < 0) && (sum < 0) != (a < 0) {
		return 0, false
	}
	return sum, true
}

// Mul tells a times b; no: the product is no number of 64 bits with a sign.
func Mul(a, b int) (int, bool) {
	high, low := bits.Mul64(magnitude(a), magnitude(b))
	if high != 0 {
		return 0, false
	}
	if (a < 0) == (b < 0) {
		return fromZeroOn(low)
	}
	return toZero(low)
}

// Up tells the least power of two that is not below v; no: v is below 1, or the power is no number of 64 bits with a sign.
func Up(v int) (int, bool) {
	if v < 1 {
		return 0, false
	}
	return fromZeroOn(uint64(1) << bits.Len64(uint64(v-1)))
}

// Log tells which power of two v is; no: it is none.
func Log(v int) (int, bool) {
	// The least number of all has one bit set too, but it is below 0.
	if v < 1 || v&(v-1) != 0 {
		return 0, false
	}
	return bits.TrailingZeros64(uint64(v)), true
}

// Round tells the least multiple of to that is not below v; no: v is below 0, to is below 1, or the multiple is no number of 64 bits with a sign.
func Round(v, to int) (int, bool) {
	if v < 0 || to < 1 {
		return 0, false
	}
	over := v % to
	if over == 0 {
		return v, true
	}
	return Add(v, to-over)
}

// magnitude goes through numbers without a sign: the least number has no opposite among those with one.
func magnitude(v int) uint64 {
	if v < 0 {
		return -uint64(v)
	}
	return uint64(v)
}

// fromZeroOn tells the number of that magnitude that is not below 0; no: there is none.
func fromZeroOn(size uint64) (int, bool) {
	if size >= beyond {
		return 0, false
	}
	return int(size), true
}

// toZero tells the number of that magnitude that is not above 0; no: there is none.
func toZero(size uint64) (int, bool) {
	if size > beyond {
		return 0, false
	}
	return int(-size), true
}
