// Package num is layer 1: see shared/doc/01-num.md.
package num

import "splicer/api"

// The greatest sizes that the calls take: they leave room in 64 bits for the half of the divisor that is added ahead of
// a division.
const (
	maxShr  = 1 << 61
	maxBits = 60
	maxDiv  = 1 << 60
	maxAbs  = 1 << 62
)

// Sat: P1.1.
func Sat(x int) int { return max(api.Low, min(x, api.High)) }

// Shr: P1.1.
func Shr(x, n int) int {
	if !within(-maxShr, maxShr, x) || !within(0, maxBits, n) {
		return 0
	}
	half := 1 << n >> 1 // none at n 0, where nothing is rounded
	return (x + half) >> n
}

// Div: P1.1.
func Div(a, b int) int {
	if b < 1 || !within(-maxDiv, maxDiv, a, b) {
		return 0
	}
	// Half of an odd divisor may be rounded down: nothing lies just at the half there.
	q, _ := Mod(a+b/2, b)
	return q
}

// Abs: P1.1.
func Abs(x int) int {
	if !within(-maxAbs, maxAbs, x) {
		return 0
	}
	return max(x, -x)
}

// Mod: P1.1.
func Mod(a, b int) (int, int) {
	if b < 1 {
		return 0, 0
	}
	q, r := a/b, a%b
	if r < 0 { // the language rounds towards 0, not down
		return q - 1, r + b
	}
	return q, r
}

// within: every number of l lies from low to high.
func within(low, high int, l ...int) bool {
	for _, x := range l {
		if x < low || x > high {
			return false
		}
	}
	return true
}
