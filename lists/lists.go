// Package lists makes lists of numbers, which the tests of several layers give to what they test.
package lists

// Filled: n numbers, each told by its place.
func Filled(n int, at func(int) int) []int {
	l := make([]int, n)
	for i := range l {
		l[i] = at(i)
	}
	return l
}

// Same: x at all places.
func Same(x int) func(int) int { return func(int) int { return x } }

// Single: x at one place, and 0 at all others.
func Single(place, x int) func(int) int {
	return func(i int) int {
		if i == place {
			return x
		}
		return 0
	}
}

// Drawn: numbers from least to greatest; draw tells one from 0 on that is below the number it is given.
func Drawn(draw func(int) int, least, greatest int) func(int) int {
	return func(int) int { return least + draw(greatest-least+1) }
}

// Either: the one or the other at each place, as draw tells.
func Either(draw func(int) int, one, other int) func(int) int {
	return func(int) int {
		if draw(2) == 0 {
			return one
		}
		return other
	}
}
