// Package lists makes lists of numbers, which the tests of several layers give to what they test.
package lists

import (
	"math"
	"slices"
)

// Filled: n numbers, each told by its place.
func Filled(n int, at func(int) int) []int {
	l := make([]int, n)
	for i := range l {
		l[i] = at(i)
	}
	return l
}

// Same: x at all places.
func Same(x int) func(int) int { return func(int) int { return x } }

// Single: x at one place, and 0 at all others.
func Single(place, x int) func(int) int {
	return func(i int) int {
		if i == place {
			return x
		}
		return 0
	}
}

// Drawn: numbers from least to greatest; draw tells one from 0 on that is below the number it is given.
func Drawn(draw func(int) int, least, greatest int) func(int) int {
	return func(int) int { return least + draw(greatest-least+1) }
}

// Either: the one or the other at each place, as draw tells.
func Either(draw func(int) int, one, other int) func(int) int {
	return func(int) int {
		if draw(2) == 0 {
			return one
		}
		return other
	}
}

// All: all lists of n numbers from least to greatest.
func All(n, least, greatest int) [][]int {
	l := [][]int{{}}
	for range n {
		var longer [][]int
		for _, x := range l {
			for v := least; v <= greatest; v++ {
				longer = append(longer, append(slices.Clone(x), v))
			}
		}
		l = longer
	}
	return l
}

// Beyond: numbers that lie beyond all bounds up to 2^30, some of which look like those within them if they are cut short, or
// run over.
func Beyond() []int {
	return []int{
		1 << 31, -1 << 31, 1 << 32, 1<<32 + 1, 1<<32 + 2, 1<<32 + 4, 1<<32 + 8, -1<<32 + 2, -1<<32 + 8,
		1 << 60, -1 << 60, 1 << 61, 1<<61 + 1, -1 << 61, 1 << 62, 1<<62 + 1, -1 << 62, -1<<62 - 1,
		math.MinInt, math.MinInt + 1, math.MinInt + 2, math.MinInt + 8, math.MinInt + 16, math.MinInt + 23, math.MinInt + 24,
		math.MaxInt - 24, math.MaxInt - 16, math.MaxInt - 2, math.MaxInt - 1, math.MaxInt,
	}
}

// Spoil writes over all of l's memory, also what lies behind its end, so that whoever shares some of it shows it.
func Spoil(l []int) {
	l = l[:cap(l)]
	for i := range l {
		l[i] = math.MaxInt
	}
}
