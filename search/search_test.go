package search_test

import (
	"math"
	"math/rand"
	"slices"
	"testing"

	"splicer/lists"
	"splicer/search"
)

const (
	least = math.MinInt
	most  = math.MaxInt
	wide  = 8       // the most numbers that have pulses
	full  = 24      // the most pulses that they have in all
	edge  = 1 << 28 // the farthest from 0 that each of them may be
)

// away: how far v is from 0.
func away(v int) int { return max(v, -v) }

// total: how far all are from 0 together.
func total(x []int) int {
	s := 0
	for _, v := range x {
		s += away(v)
	}
	return s
}

// pulses are the chapter's words, of what may be: who lost most is looked for anew for each of those that are left.
func pulses(x []int, k int) []int {
	y, lost, s, left := make([]int, len(x)), make([]int, len(x)), total(x), k
	if s == 0 {
		y[0] = k
		return y
	}
	for i, v := range x {
		y[i] = away(v) * k / s
		lost[i] = away(v)*k - y[i]*s
		left -= y[i]
	}
	for range left {
		i := slices.Index(lost, slices.Max(lost))
		y[i]++
		lost[i] = -1
	}
	for i, v := range x {
		if v < 0 {
			y[i] = -y[i]
		}
	}
	return y
}

// small: all lists of n numbers from -4 to 4.
func small(n int) [][]int { return lists.All(n, -4, 4) }

// many: drawn lists of each count of numbers, near to 0, as far from it as they may be, and between; of some many are 0, or
// as far from 0.
func many() [][]int {
	rnd := rand.New(rand.NewSource(18))
	var l [][]int
	for n := 1; n <= wide; n++ {
		for size := 1; size <= edge; size *= 2 {
			for range 6 {
				l = append(l,
					lists.Filled(n, lists.Drawn(rnd.Intn, -size, size)),
					lists.Filled(n, lists.Either(rnd.Intn, size, -size)),
					lists.Filled(n, lists.Either(rnd.Intn, size, 0)),
					lists.Filled(n, lists.Either(rnd.Intn, -size, 1-size)))
			}
		}
	}
	return l
}

// each asks f of all small lists and many drawn ones, with every k.
func each(f func(x []int, k int)) {
	for _, l := range [][][]int{small(1), small(2), small(3), many()} {
		for _, x := range l {
			for k := range full + 1 {
				f(x, k)
			}
		}
	}
}

func check(t *testing.T, x []int, k int, want ...int) {
	t.Helper()
	if got, ok := search.Pulses(x, k); !slices.Equal(got, want) || !ok {
		t.Fatalf("Pulses(%v, %d) = %v, %t, want %v, true", x, k, got, ok, want)
	}
}

func checkNone(t *testing.T, x []int, k int) {
	t.Helper()
	if got, ok := search.Pulses(x, k); got != nil || ok {
		t.Fatalf("Pulses(%v, %d) = %v, %t, want none, false", x, k, got, ok)
	}
}

// TestExamples: the chapter's, and those of its stage.
func TestExamples(t *testing.T) {
	check(t, []int{3, -1}, 2, 2, 0)
	check(t, []int{0, 0}, 2, 2, 0)
	checkNone(t, nil, 2)
}

// TestByHand: P18.1, worked out by hand: shares that are whole, and that are not; several that were rounded down by as much,
// of which the first ones have one more, however far from 0 they are; and shares that differ by as little as they can.
func TestByHand(t *testing.T) {
	check(t, []int{3, -1}, 4, 3, -1)
	check(t, []int{-5, 0, 10, -15}, 6, -1, 0, 2, -3)
	check(t, []int{1, 2, 3}, 4, 1, 1, 2)              // 4, 8 and 12 sixths
	check(t, []int{-3, -2, -1}, 4, -2, -1, -1)        // the same from behind
	check(t, []int{-1, 3}, 2, -1, 1)                  // a half and three halves
	check(t, []int{2, -2, 2}, 1, 1, 0, 0)             // thirds
	check(t, []int{2, -2, 2}, 2, 1, -1, 0)            // two thirds
	check(t, []int{-7, 7, 7}, 13, -5, 4, 4)           // four and a third
	check(t, []int{0, 1, 0, -1}, 3, 0, 2, 0, -1)      // a number 0 has none of those left
	check(t, []int{1, 1, 6}, 4, 1, 0, 3)              // two halves and three
	check(t, []int{4, 1, -1, 1, 1}, 2, 1, 1, 0, 0, 0) // one and four quarters
	check(t, []int{1, 5, -1, 1}, 4, 1, 3, 0, 0)       // a half, two and a half, two halves
	check(t, []int{1, -5, 1, 1, 6, 2}, 8, 1, -3, 0, 0, 3, 1)
	check(t, []int{edge, -1}, full, full, 0)
	check(t, []int{1, -edge}, full, 0, -full)
	check(t, []int{edge - 1, -edge}, 1, 0, -1) // a little less than a half, and a little more
	check(t, []int{-edge, edge - 1}, 1, -1, 0)
	check(t, []int{edge - 1, -edge}, 3, 1, -2)
	check(t, []int{1 - edge, edge, 0}, 2, -1, 1, 0)
	check(t, []int{edge, 0, most}[:2], 1, 1, 0) // what lies behind a list's end is none of its numbers
}

// TestAll: P18.1, of all lists of up to three small numbers, and of many drawn ones, with every k.
func TestAll(t *testing.T) {
	each(func(x []int, k int) { check(t, x, k, pulses(x, k)...) })
}

// TestAlike: P18.1, of numbers that are all as far from 0, to its edges: the first ones have one more than the others.
func TestAlike(t *testing.T) {
	for n := 1; n <= wide; n++ {
		for k := range full + 1 {
			want := lists.Filled(n, func(i int) int { return (k + n - 1 - i) / n })
			back := lists.Filled(n, func(i int) int { return -want[i] })
			for _, v := range []int{1, 2, 3, 7, 1000, edge - 1, edge} {
				check(t, lists.Filled(n, lists.Same(v)), k, want...)
				check(t, lists.Filled(n, lists.Same(-v)), k, back...)
			}
		}
	}
}

// TestSingle: P18.1, of one number, alone and among numbers 0: it has all.
func TestSingle(t *testing.T) {
	for n := 1; n <= wide; n++ {
		for place := range n {
			for k := range full + 1 {
				for _, v := range []int{1, 2, 23, 24, 25, 1000, edge - 1, edge} {
					check(t, lists.Filled(n, lists.Single(place, v)), k, lists.Filled(n, lists.Single(place, k))...)
					check(t, lists.Filled(n, lists.Single(place, -v)), k, lists.Filled(n, lists.Single(place, -k))...)
				}
			}
		}
	}
}

// TestSilent: P18.1, of numbers that are all 0 the first has all, on the upper side.
func TestSilent(t *testing.T) {
	for n := 1; n <= wide; n++ {
		for k := range full + 1 {
			check(t, make([]int, n), k, lists.Filled(n, lists.Single(0, k))...)
		}
	}
}

// TestNoneInAll: P18.1, as many numbers 0 as there are, where k is 0.
func TestNoneInAll(t *testing.T) {
	for _, x := range many() {
		check(t, x, 0, make([]int, len(x))...)
	}
}

// TestNoK: P18.1, of a k that there is not, whatever the numbers are.
func TestNoK(t *testing.T) {
	no := append(lists.Beyond(), -1, -2, -full, full+1, full+2, 2*full, 64)
	for _, x := range append(many(), nil, []int{0}, []int{3, -1}, make([]int, wide), make([]int, wide+1), []int{least}) {
		for _, k := range no {
			checkNone(t, x, k)
		}
	}
}

// TestNoCount: P18.1, of no numbers, and of too many.
func TestNoCount(t *testing.T) {
	for k := range full + 1 {
		checkNone(t, nil, k)
		checkNone(t, []int{}, k)
		checkNone(t, make([]int, 0, wide), k)
		for n := wide + 1; n <= 70; n++ {
			for _, v := range []int{0, 1, -1, edge, -edge, edge + 1} {
				checkNone(t, lists.Filled(n, lists.Same(v)), k)
				checkNone(t, lists.Filled(n, lists.Single(0, v)), k)
				checkNone(t, lists.Filled(n, lists.Single(n-1, v)), k)
			}
		}
	}
}

// TestNoNumber: P18.1, of a number that lies beyond the bounds at any place, and of such numbers alone, which may be nothing
// in all if they run over.
func TestNoNumber(t *testing.T) {
	for _, v := range append(lists.Beyond(), edge+1, -edge-1, edge+2, -edge-2, 2*edge, -2*edge) {
		for n := 1; n <= wide; n++ {
			for _, k := range []int{-1, 0, 1, 2, 11, full, full + 1} {
				checkNone(t, lists.Filled(n, lists.Same(v)), k)
				for place := range n {
					for _, other := range []int{0, 1, -3, edge, -edge} {
						x := lists.Filled(n, lists.Same(other))
						x[place] = v
						checkNone(t, x, k)
					}
				}
			}
		}
	}
}

// TestTotal: P18.2, there are as many as there are numbers, and k in all.
func TestTotal(t *testing.T) {
	each(func(x []int, k int) {
		if y, ok := search.Pulses(x, k); !ok || len(y) != len(x) || total(y) != k {
			t.Fatalf("Pulses(%v, %d) = %v, %t, which aren't as many, or not %d in all", x, k, y, ok, k)
		}
	})
}

// TestNear: P18.2, each is off by less than one from its share, on its number's side, or 0.
func TestNear(t *testing.T) {
	each(func(x []int, k int) {
		s := total(x)
		if s == 0 {
			return
		}
		y, _ := search.Pulses(x, k)
		for i, v := range x {
			if away(away(y[i])*s-away(v)*k) >= s {
				t.Fatalf("Pulses(%v, %d) = %v, off from its share at %d", x, k, y, i)
			}
			if y[i] > 0 && v <= 0 || y[i] < 0 && v >= 0 {
				t.Fatalf("Pulses(%v, %d) = %v, on another side at %d", x, k, y, i)
			}
		}
	})
}

// TestFarther: P18.2, who is farther from 0 has no fewer; and of two that are as far the first has no fewer.
func TestFarther(t *testing.T) {
	each(func(x []int, k int) {
		y, _ := search.Pulses(x, k)
		for i := range x {
			for j := range x {
				fewer := away(y[i]) < away(y[j])
				if fewer && away(x[i]) > away(x[j]) || fewer && i < j && away(x[i]) == away(x[j]) {
					t.Fatalf("Pulses(%v, %d) = %v, fewer at %d than at %d", x, k, y, i, j)
				}
			}
		}
	})
}

// TestGivenStays: rules 0.5 and 7, what is given stays as it was, where there is no answer too, and what is told shares its
// numbers neither with it nor with another answer.
func TestGivenStays(t *testing.T) {
	for _, given := range [][]int{{}, {5}, {0, 0}, {3, -1}, {1, -2, 0}, {-3, 3, -3, 3, -3, 3, -3, 3}, {edge, -edge, 1}, {least, most}, make([]int, wide), make([]int, wide+1)} {
		for _, k := range []int{-1, 0, 1, 5, full, full + 1} {
			x := slices.Clone(given)
			first, _ := search.Pulses(x, k)
			second, _ := search.Pulses(x, k)
			want := slices.Clone(second)
			lists.Spoil(first)
			if !slices.Equal(x, given) {
				t.Fatalf("what Pulses was given changed: %v, want %v", x, given)
			}
			lists.Spoil(x)
			if !slices.Equal(second, want) {
				t.Fatalf("an answer of Pulses(%v, %d) changed with what it was given, or with another answer", given, k)
			}
		}
	}
}
