package pvq_test

import (
	"math"
	"math/rand"
	"slices"
	"testing"

	"splicer/lists"
	"splicer/pvq"
)

const (
	least = math.MinInt
	most  = math.MaxInt
	wide  = 8  // the most numbers that pulses are
	full  = 24 // the most that they are from 0 in all
	few   = 3000
)

// order: the first numbers up to k from 0, in the chapter's order.
func order(k int) []int {
	l := []int{0}
	for far := 1; far <= k; far++ {
		l = append(l, far, -far)
	}
	return l
}

// away: how far x is from 0.
func away(x int) int {
	if x < 0 {
		return -x
	}
	return x
}

// written: all lists of n numbers that are k from 0 in all, written out in the chapter's order.
func written(n, k int) [][]int {
	if n == 0 && k == 0 {
		return [][]int{{}}
	}
	if n == 0 {
		return nil
	}
	var all [][]int
	for _, first := range order(k) {
		for _, behind := range written(n-1, k-away(first)) {
			all = append(all, append([]int{first}, behind...))
		}
	}
	return all
}

// counts: how many there are of up to 8 numbers, up to 24 from 0 in all, by the first number.
func counts() [wide + 1][full + 1]int {
	var c [wide + 1][full + 1]int
	c[0][0] = 1
	for n := 1; n <= wide; n++ {
		for k := 0; k <= full; k++ {
			for _, first := range order(k) {
				c[n][k] += c[n-1][k-away(first)]
			}
		}
	}
	return c
}

// each asks f of each count of numbers of which there are pulses, and of how far they may be from 0 in all.
func each(f func(n, k int)) {
	for n := 1; n <= wide; n++ {
		for k := 0; k <= full; k++ {
			f(n, k)
		}
	}
}

// before: does a stand ahead of b in the chapter's order? They are of as many numbers, and differ.
func before(a, b []int) bool {
	for i, x := range a {
		if y := b[i]; x != y {
			return away(x) < away(y) || away(x) == away(y) && x > y
		}
	}
	return false
}

// drawn: n numbers that are k from 0 in all, put together one by one.
func drawn(rnd *rand.Rand, n, k int) []int {
	x := make([]int, n)
	for range k {
		x[rnd.Intn(n)]++
	}
	for i := range x {
		if rnd.Intn(2) == 0 {
			x[i] = -x[i]
		}
	}
	return x
}

// beyond: numbers beyond all bounds, also such as look like those within them if they are cut to an octet.
func beyond() []int { return append(lists.Beyond(), 1<<8, 1<<8+1) }

func checkCount(t *testing.T, n, k, want int) {
	t.Helper()
	if got := pvq.Count(n, k); got != want {
		t.Fatalf("Count(%d, %d) = %d, want %d", n, k, got, want)
	}
}

func checkSize(t *testing.T, x []int, want int) {
	t.Helper()
	if got, ok := pvq.Size(x); got != want || !ok {
		t.Fatalf("Size(%v) = %d, %t, want %d, true", x, got, ok, want)
	}
}

// checkNoPulses: of what are no pulses neither how far they are from 0 nor a number is told.
func checkNoPulses(t *testing.T, x []int) {
	t.Helper()
	if got, ok := pvq.Size(x); got != 0 || ok {
		t.Fatalf("Size(%v) = %d, %t, want 0, false", x, got, ok)
	}
	if got, ok := pvq.Index(x); got != 0 || ok {
		t.Fatalf("Index(%v) = %d, %t, want 0, false", x, got, ok)
	}
}

func checkNoVector(t *testing.T, n, k, i int) {
	t.Helper()
	if got, ok := pvq.Vector(n, k, i); got != nil || ok {
		t.Fatalf("Vector(%d, %d, %d) = %v, %t, want none, false", n, k, i, got, ok)
	}
}

// checkBoth: x, of k from 0 in all, are the pulses of the number i, there and back.
func checkBoth(t *testing.T, x []int, k, i int) {
	t.Helper()
	checkSize(t, x, k)
	if got, ok := pvq.Index(x); got != i || !ok {
		t.Fatalf("Index(%v) = %d, %t, want %d, true", x, got, ok, i)
	}
	if got, ok := pvq.Vector(len(x), k, i); !slices.Equal(got, x) || !ok {
		t.Fatalf("Vector(%d, %d, %d) = %v, %t, want %v, true", len(x), k, i, got, ok, x)
	}
}

// vector: the pulses of a number that there is.
func vector(t *testing.T, n, k, i int) []int {
	t.Helper()
	x, ok := pvq.Vector(n, k, i)
	if !ok || len(x) != n {
		t.Fatalf("Vector(%d, %d, %d) = %v, %t, want %d numbers, true", n, k, i, x, ok, n)
	}
	checkSize(t, x, k)
	return x
}

// TestExamples: the chapter's, and those of its stage.
func TestExamples(t *testing.T) {
	checkCount(t, 2, 1, 4)
	for i, x := range [][]int{{0, 1}, {0, -1}, {1, 0}, {-1, 0}} {
		checkBoth(t, x, 1, i)
	}
	checkNoVector(t, 2, 1, 4)
}

// TestByHand: P16.1 and P16.2, of pulses written out by hand.
func TestByHand(t *testing.T) {
	checkCount(t, 2, 2, 8)
	for i, x := range [][]int{{0, 2}, {0, -2}, {1, 1}, {1, -1}, {-1, 1}, {-1, -1}, {2, 0}, {-2, 0}} {
		checkBoth(t, x, 2, i)
	}
	checkCount(t, 3, 1, 6)
	for i, x := range [][]int{{0, 0, 1}, {0, 0, -1}, {0, 1, 0}, {0, -1, 0}, {1, 0, 0}, {-1, 0, 0}} {
		checkBoth(t, x, 1, i)
	}
	checkCount(t, 8, 1, 16)
	checkCount(t, 8, 2, 128)
	checkCount(t, 3, 3, 38)
	checkCount(t, 2, 24, 96)
}

// TestCount: P16.1, by the first number, and by all that are written out where they are few.
func TestCount(t *testing.T) {
	c := counts()
	for n := -1; n <= wide+1; n++ {
		for k := -1; k <= full+1; k++ {
			want := 0
			if n >= 0 && n <= wide && k >= 0 && k <= full {
				want = c[n][k]
			}
			checkCount(t, n, k, want)
			if n >= 0 && k >= 0 && want > 0 && want <= few {
				checkCount(t, n, k, len(written(n, k)))
			}
		}
	}
}

// TestCountOfNone: P16.1, of no numbers there is one list, which is 0 from 0, and no other.
func TestCountOfNone(t *testing.T) {
	checkCount(t, 0, 0, 1)
	for k := 1; k <= full+1; k++ {
		checkCount(t, 0, k, 0)
	}
}

// TestNoCount: P16.1, of numbers far beyond the bounds, alone and with one another.
func TestNoCount(t *testing.T) {
	all := append(beyond(), -1, 0, 1, 2, wide, wide+1, full, full+1, -2, -wide, -full, 64)
	for _, x := range beyond() {
		for _, y := range all {
			checkCount(t, x, y, 0)
			checkCount(t, y, x, 0)
		}
	}
	for n := range wide + 1 {
		for k := range full + 1 {
			checkCount(t, -n-1, k, 0)
			checkCount(t, n, -k-1, 0)
			checkCount(t, n+wide+1, k, 0)
			checkCount(t, n, k+full+1, 0)
		}
	}
}

// TestSize: P16.1, of pulses that are nothing, or much, at one place, at many, on one side of 0 and on both.
func TestSize(t *testing.T) {
	rnd := rand.New(rand.NewSource(16))
	each(func(n, k int) {
		for place := range n {
			checkSize(t, lists.Filled(n, lists.Single(place, k)), k)
			checkSize(t, lists.Filled(n, lists.Single(place, -k)), k)
		}
		for range 20 {
			checkSize(t, drawn(rnd, n, k), k)
		}
	})
	checkSize(t, []int{3, 3, 3, 3, 3, 3, 3, 3}, full)
	checkSize(t, []int{-3, 3, -3, 3, -3, 3, -3, 3}, full)
	checkSize(t, []int{12, -12}, full)
	checkSize(t, []int{1, 2, most}[:2], 3) // what lies behind a list's end is none of its numbers
}

// TestNoPulses: P16.1 and P16.2, of lists too short or too long, and of those that are 25 or more from 0 in all.
func TestNoPulses(t *testing.T) {
	checkNoPulses(t, nil)
	checkNoPulses(t, []int{})
	checkNoPulses(t, make([]int, 0, wide))
	for n := wide + 1; n <= 100; n++ {
		for _, x := range []int{0, 1, -1} {
			checkNoPulses(t, lists.Filled(n, lists.Same(x)))
			checkNoPulses(t, lists.Filled(n, lists.Single(n-1, x)))
		}
	}
	rnd := rand.New(rand.NewSource(16))
	for n := 1; n <= wide; n++ {
		for k := full + 1; k <= full+200; k++ {
			for range 5 {
				checkNoPulses(t, drawn(rnd, n, k))
			}
			checkNoPulses(t, lists.Filled(n, lists.Single(n-1, k)))
			checkNoPulses(t, lists.Filled(n, lists.Single(0, -k)))
		}
	}
	checkNoPulses(t, []int{3, 3, 3, 3, 3, 3, 3, 4})
	checkNoPulses(t, []int{-4, 3, 3, 3, 3, 3, 3, -3})
	checkNoPulses(t, []int{full, 1})
	checkNoPulses(t, []int{full, -full})
	checkNoPulses(t, []int{13, -12})
}

// TestNoSum: P16.1 and P16.2, of numbers far beyond the bounds, whose sum may run over, or come to nothing.
func TestNoSum(t *testing.T) {
	for _, x := range beyond() {
		checkNoPulses(t, []int{x})
		for n := 2; n <= wide; n++ {
			checkNoPulses(t, lists.Filled(n, lists.Same(x)))
			for place := range n {
				checkNoPulses(t, lists.Filled(n, lists.Single(place, x)))
				for _, y := range append(beyond(), -1, 1, full, full+1) {
					l := lists.Filled(n, lists.Single(place, x))
					l[(place+1)%n] = y
					checkNoPulses(t, l)
				}
			}
		}
	}
}

// TestAll: P16.2 and P16.3, of all pulses where they are few, as they are written out.
func TestAll(t *testing.T) {
	each(func(n, k int) {
		if pvq.Count(n, k) > few {
			return
		}
		all := written(n, k)
		for i, x := range all {
			checkBoth(t, x, k, i)
		}
		checkNoVector(t, n, k, len(all))
	})
}

// TestNothing: P16.2, numbers that are none from 0 are the only ones of their kind, however many they are.
func TestNothing(t *testing.T) {
	for n := 1; n <= wide; n++ {
		checkCount(t, n, 0, 1)
		checkBoth(t, make([]int, n), 0, 0)
		checkNoVector(t, n, 0, 1)
	}
}

// TestOneAlone: P16.2, one number alone is as far from 0 as it may be, on this side or on that.
func TestOneAlone(t *testing.T) {
	for k := 1; k <= full; k++ {
		checkCount(t, 1, k, 2)
		checkBoth(t, []int{k}, k, 0)
		checkBoth(t, []int{-k}, k, 1)
		checkNoVector(t, 1, k, 2)
	}
}

// TestEnds: P16.2, the first pulses have all in the last number, and the last ones in the first.
func TestEnds(t *testing.T) {
	c := counts()
	each(func(n, k int) {
		checkBoth(t, lists.Filled(n, lists.Single(n-1, k)), k, 0)
		checkBoth(t, lists.Filled(n, lists.Single(0, -k)), k, c[n][k]-1)
	})
}

// TestDrawn: P16.2 and P16.3, of many drawn pulses and many drawn numbers, there and back.
func TestDrawn(t *testing.T) {
	rnd := rand.New(rand.NewSource(16))
	c := counts()
	each(func(n, k int) {
		for range 100 {
			x := drawn(rnd, n, k)
			i, ok := pvq.Index(x)
			if !ok || i < 0 || i >= c[n][k] {
				t.Fatalf("Index(%v) = %d, %t, want a number below %d, true", x, i, ok, c[n][k])
			}
			checkBoth(t, x, k, i)
			i = rnd.Intn(c[n][k])
			checkBoth(t, vector(t, n, k, i), k, i)
		}
	})
}

// TestNoVector: P16.2, of numbers that no pulses have, and where there are no pulses at all.
func TestNoVector(t *testing.T) {
	c := counts()
	each(func(n, k int) {
		for _, i := range append(beyond(), -1, -2, c[n][k], c[n][k]+1) {
			if i < 0 || i >= c[n][k] {
				checkNoVector(t, n, k, i)
			}
		}
	})
	for _, i := range append(beyond(), -1, 0, 1, 2) {
		for k := -1; k <= full+1; k++ {
			for _, n := range append(beyond(), 0, -1, wide+1, -wide) {
				checkNoVector(t, n, k, i)
			}
		}
		for n := -1; n <= wide+1; n++ {
			for _, k := range append(beyond(), -1, full+1, -full) {
				checkNoVector(t, n, k, i)
			}
		}
	}
}

// TestOrder: P16.3, of two numbers the lesser one's pulses stand ahead, of neighbours too, and of those far apart.
func TestOrder(t *testing.T) {
	check := func(n, k, less, more int) {
		t.Helper()
		if a, b := vector(t, n, k, less), vector(t, n, k, more); !before(a, b) || before(b, a) {
			t.Fatalf("of %d numbers, %d from 0 in all, %v has the number %d, and %v has %d", n, k, a, less, b, more)
		}
	}
	rnd := rand.New(rand.NewSource(16))
	c := counts()
	each(func(n, k int) {
		count := c[n][k]
		if count < 2 {
			return
		}
		for range 50 {
			i, j := rnd.Intn(count), rnd.Intn(count-1)
			check(n, k, j, j+1)
			if i != j {
				check(n, k, min(i, j), max(i, j))
			}
		}
		check(n, k, 0, 1)
		check(n, k, count-2, count-1)
		check(n, k, 0, count-1)
	})
}

// TestOrderOfPulses: P16.3, of two drawn pulses the one ahead has the lesser number.
func TestOrderOfPulses(t *testing.T) {
	rnd := rand.New(rand.NewSource(16))
	each(func(n, k int) {
		for range 50 {
			a, b := drawn(rnd, n, k), drawn(rnd, n, k)
			i, _ := pvq.Index(a)
			j, _ := pvq.Index(b)
			if before(a, b) != (i < j) || before(b, a) != (j < i) {
				t.Fatalf("%v has the number %d, and %v has %d", a, i, b, j)
			}
		}
	})
}

// TestGivenStays: rules 0.5 and 7, what is given stays as it was, where there is no answer too, and no two answers share any
// memory.
func TestGivenStays(t *testing.T) {
	for _, x := range [][]int{{}, {5}, {1, -2, 0}, {-3, 3, -3, 3, -3, 3, -3, 3}, {24, 1}, {least, most}, make([]int, wide), make([]int, wide+1)} {
		kept := slices.Clone(x)
		pvq.Size(x)
		pvq.Index(x)
		if !slices.Equal(x, kept) {
			t.Fatalf("what Size and Index were given changed: %v, want %v", x, kept)
		}
	}
	c := counts()
	each(func(n, k int) {
		for _, i := range []int{0, c[n][k] / 2, c[n][k] - 1} {
			first, second := vector(t, n, k, i), vector(t, n, k, i)
			want := slices.Clone(second)
			lists.Spoil(first)
			if !slices.Equal(second, want) || !slices.Equal(vector(t, n, k, i), want) {
				t.Fatalf("the pulses %d of %d numbers, %d from 0 in all, changed with another answer", i, n, k)
			}
		}
	})
}
