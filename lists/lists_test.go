package lists_test

import (
	"math"
	"slices"
	"testing"

	"splicer/lists"
)

func check(t *testing.T, name string, got []int, want ...int) {
	t.Helper()
	if !slices.Equal(got, want) {
		t.Errorf("%s: %v, want %v", name, got, want)
	}
}

// byTurns draws the least and the greatest number that may be drawn, by turns.
func byTurns() func(int) int {
	turn := 0
	return func(below int) int {
		turn++
		return turn % 2 * (below - 1)
	}
}

func TestLists(t *testing.T) {
	check(t, "Filled", lists.Filled(4, func(i int) int { return i * i }), 0, 1, 4, 9)
	check(t, "Filled with none", lists.Filled(0, lists.Same(1)))
	check(t, "Same", lists.Filled(3, lists.Same(-7)), -7, -7, -7)
	check(t, "Single", lists.Filled(4, lists.Single(2, 5)), 0, 0, 5, 0)
	check(t, "Drawn", lists.Filled(3, lists.Drawn(byTurns(), -3, 8)), 8, -3, 8)
	check(t, "Either", lists.Filled(3, lists.Either(byTurns(), 10, 20)), 20, 10, 20)
}

// TestAll: each list comes once, and none of them changes with another one.
func TestAll(t *testing.T) {
	for n, want := range [][][]int{{{}}, {{-1}, {0}, {1}}, {{-1, -1}, {-1, 0}, {-1, 1}, {0, -1}, {0, 0}, {0, 1}, {1, -1}, {1, 0}, {1, 1}}} {
		l := lists.All(n, -1, 1)
		if !slices.EqualFunc(l, want, slices.Equal) {
			t.Errorf("All of %d numbers: %v, want %v", n, l, want)
		}
		lists.Spoil(l[0])
		if !slices.EqualFunc(l[1:], want[1:], slices.Equal) {
			t.Errorf("All of %d numbers: a list changed with another one", n)
		}
	}
	if l := lists.All(3, -4, 4); len(l) != 729 {
		t.Errorf("All of 3 numbers from -4 to 4: %d lists, want 729", len(l))
	}
}

// TestBeyond: all lie beyond 2^30, the farthest on both sides are among them, and each list is a new one.
func TestBeyond(t *testing.T) {
	l := lists.Beyond()
	for _, x := range l {
		if x >= -1<<30 && x <= 1<<30 {
			t.Errorf("%d doesn't lie beyond 2^30", x)
		}
	}
	if slices.Min(l) != math.MinInt || slices.Max(l) != math.MaxInt {
		t.Errorf("Beyond: %d to %d", slices.Min(l), slices.Max(l))
	}
	lists.Spoil(l)
	if slices.Equal(l, lists.Beyond()) {
		t.Error("Beyond: a list that was written over came again")
	}
}

func TestSpoil(t *testing.T) {
	lists.Spoil(nil)
	l := []int{1, 2, 3, 4}
	lists.Spoil(l[1:2:3])
	check(t, "Spoil", l, 1, math.MaxInt, math.MaxInt, 4)
}
