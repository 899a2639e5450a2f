package window_test

import (
	"math"
	"math/rand"
	"slices"
	"testing"

	"splicer/lists"
	"splicer/window"
)

const (
	least    = math.MinInt
	most     = math.MaxInt
	maxFold  = 1 << 24 // the greatest number of Fold
	maxBlock = 1 << 30 // the greatest of Left and Right
	maxMeet  = 1 << 46 // the greatest of Meet
	low      = -32768  // the least sample
	high     = 32767   // the greatest one
	offMeet  = 3       // the most that a sample which is left by two blocks is off
)

// slope: the chapter's numbers.
func slope() [8]int { return [8]int{494, 4325, 11207, 19363, 26435, 30792, 32481, 32764} }

// blocks are how many numbers a block has.
func blocks() []int { return []int{8, 64} }

// shifted: x divided by 2^15, to the nearest, halves upwards.
func shifted(x int) int {
	q, r := x/32768, x%32768
	if r < 0 {
		q, r = q-1, r+32768
	}
	if r >= 16384 {
		q++
	}
	return q
}

// folded is the chapter's words, number by number.
func folded(x []int) []int {
	w, n := slope(), len(x)-8
	u := make([]int, n)
	for k := range u {
		u[k] = x[4+k]
	}
	for i := 0; i <= 3; i++ {
		u[i] = shifted(w[4+i]*x[4+i] + w[3-i]*x[3-i])
		u[n-1-i] = shifted(w[4+i]*x[n+3-i] - w[3-i]*x[n+4+i])
	}
	return u
}

// leftOf is the chapter's words of what a block leaves to its left.
func leftOf(u []int) [8]int {
	w := slope()
	var l [8]int
	for i := 0; i <= 3; i++ {
		l[4+i] = w[4+i] * u[i]
		l[3-i] = w[3-i] * u[i]
	}
	return l
}

// rightOf is the chapter's words of what a block leaves to its right.
func rightOf(u []int) [8]int {
	w := slope()
	var l [8]int
	for i := 0; i <= 3; i++ {
		l[3-i] = w[4+i] * u[len(u)-1-i]
		l[4+i] = -(w[3-i] * u[len(u)-1-i])
	}
	return l
}

// met is the chapter's words of two that meet.
func met(left, right [8]int) [8]int {
	var l [8]int
	for k := range l {
		if min(left[k], right[k]) >= -maxMeet && max(left[k], right[k]) <= maxMeet {
			l[k] = shifted(left[k] + right[k])
		}
	}
	return l
}

// side: Left or Right, and its words.
type side struct {
	name  string
	do    func([]int) [8]int
	words func([]int) [8]int
}

func sides() []side {
	return []side{{"Left", window.Left, leftOf}, {"Right", window.Right, rightOf}}
}

func eight(at func(int) int) [8]int { return [8]int(lists.Filled(8, at)) }

// inputs of n numbers from -bound to bound: small ones, one number at each place, ones at the bounds, drawn ones.
func inputs(n, bound int) [][]int {
	var l [][]int
	add := func(at func(int) int) { l = append(l, lists.Filled(n, at)) }
	for _, x := range []int{0, 1, -1, 2, 7, -13, 4096, -4096, bound - 1, bound, 1 - bound, -bound} {
		add(lists.Same(x))
	}
	add(func(i int) int { return i + 1 })
	add(func(i int) int { return 3 - 2*i })
	add(func(i int) int { return bound - i })
	add(func(i int) int { return i - bound })
	for place := range n {
		for _, x := range []int{1, -3, 1000, 4096, -4096, 8192, -8192, 32768, bound - 1, bound, -bound} {
			add(lists.Single(place, x))
		}
	}
	rnd := rand.New(rand.NewSource(int64(11 + n)))
	for range 300 {
		for _, size := range []int{1, 9, 1000, 32768, bound} {
			add(lists.Drawn(rnd.Intn, -size, size))
		}
		add(lists.Either(rnd.Intn, -bound, bound))
	}
	return l
}

// signed: x each, below 0 where the bit of its place is set.
func signed(bits, x int) [8]int {
	return eight(func(k int) int {
		if bits>>k&1 == 1 {
			return -x
		}
		return x
	})
}

// outside are numbers that lie outside of a bound.
func outside(bound int) []int {
	return []int{bound + 1, -bound - 1, bound + 2, 2 * bound, -2 * bound, 1 << 47, -1 << 47, 1 << 62, -1 << 62, least, least + 1, most - 1, most}
}

func checkFold(t *testing.T, x, want []int) {
	t.Helper()
	if got := window.Fold(x); !slices.Equal(got, want) {
		t.Fatalf("Fold(%v) = %v, want %v", x, got, want)
	}
}

func checkSide(t *testing.T, s side, u []int, want [8]int) {
	t.Helper()
	if got := s.do(u); got != want {
		t.Fatalf("%s(%v) = %v, want %v", s.name, u, got, want)
	}
}

func checkMeet(t *testing.T, left, right, want [8]int) {
	t.Helper()
	if got := window.Meet(left, right); got != want {
		t.Fatalf("Meet(%v, %v) = %v, want %v", left, right, got, want)
	}
}

func checkNone(t *testing.T, x []int) {
	t.Helper()
	if got := window.Fold(x); got != nil {
		t.Fatalf("Fold of %d numbers (%v) = %v, want none", len(x), x, got)
	}
}

// TestExample: the chapter's.
func TestExample(t *testing.T) {
	checkFold(t, make([]int, 16), make([]int, 8))
}

// TestSlope: P11.1, and that what is handed out is a copy.
func TestSlope(t *testing.T) {
	got := window.Slope()
	if got != slope() {
		t.Fatalf("Slope() = %v, want %v", got, slope())
	}
	got[0], got[7] = 1, 2
	if window.Slope() != slope() {
		t.Fatalf("Slope() = %v once an answer was changed, want %v", window.Slope(), slope())
	}
	checkFold(t, lists.Filled(16, lists.Same(1<<15)), folded(lists.Filled(16, lists.Same(1<<15))))
}

// TestFoldKnown: P11.1, of 2^15 at one place, which makes a number of the slope of it; at those that are not shared it
// stays as it is.
func TestFoldKnown(t *testing.T) {
	places := []struct{ place, at, want int }{
		{0, 3, 494}, {1, 2, 4325}, {2, 1, 11207}, {3, 0, 19363}, {4, 0, 26435}, {5, 1, 30792}, {6, 2, 32481}, {7, 3, 32764},
		{8, 4, 32764}, {9, 5, 32481}, {10, 6, 30792}, {11, 7, 26435}, {12, 7, -19363}, {13, 6, -11207}, {14, 5, -4325}, {15, 4, -494},
	}
	for _, c := range places {
		checkFold(t, lists.Filled(16, lists.Single(c.place, 1<<15)), lists.Filled(8, lists.Single(c.at, c.want)))
		if c.place >= 8 { // those behind a long block, and its last ones
			c.place, c.at = c.place+56, c.at+56
		}
		checkFold(t, lists.Filled(72, lists.Single(c.place, 1<<15)), lists.Filled(64, lists.Single(c.at, c.want)))
	}
	for place := 8; place < 64; place++ {
		checkFold(t, lists.Filled(72, lists.Single(place, 1<<15)), lists.Filled(64, lists.Single(place-4, 1<<15)))
	}
}

// TestFoldHalves: P11.1, numbers that lie just at a half are rounded upwards.
func TestFoldHalves(t *testing.T) {
	for _, c := range []struct{ place, x, at, want int }{
		{7, 4096, 3, 4096}, {7, -4096, 3, -4095}, {8, 4096, 4, 4096}, {8, -4096, 4, -4095},
		{0, 8192, 3, 124}, {0, -8192, 3, -123}, {15, 8192, 4, -123}, {15, -8192, 4, 124},
	} {
		checkFold(t, lists.Filled(16, lists.Single(c.place, c.x)), lists.Filled(8, lists.Single(c.at, c.want)))
	}
}

// TestFoldAll: P11.1, held against the chapter's words.
func TestFoldAll(t *testing.T) {
	for _, n := range blocks() {
		for _, x := range inputs(n+8, maxFold) {
			checkFold(t, x, folded(x))
		}
	}
}

// TestFoldSigns: P11.1, of numbers at the bounds with all signs at the shared places, those of one side and of both.
func TestFoldSigns(t *testing.T) {
	for _, n := range blocks() {
		for bits := range 256 {
			signs := signed(bits, maxFold)
			for _, other := range []int{0, 1, maxFold, -maxFold} {
				first, last := lists.Filled(n+8, lists.Same(other)), lists.Filled(n+8, lists.Same(other))
				copy(first, signs[:])
				copy(last[n:], signs[:])
				both := slices.Clone(first)
				copy(both[n:], signs[:])
				for _, x := range [][]int{first, last, both} {
					checkFold(t, x, folded(x))
				}
			}
		}
	}
}

// TestSideKnown: P11.2, of 1 at one place: two numbers of the slope, or none.
func TestSideKnown(t *testing.T) {
	left := [][8]int{
		{0, 0, 0, 19363, 26435, 0, 0, 0}, {0, 0, 11207, 0, 0, 30792, 0, 0},
		{0, 4325, 0, 0, 0, 0, 32481, 0}, {494, 0, 0, 0, 0, 0, 0, 32764},
	}
	right := [][8]int{ // from the last place on
		{0, 0, 0, 26435, -19363, 0, 0, 0}, {0, 0, 30792, 0, 0, -11207, 0, 0},
		{0, 32481, 0, 0, 0, 0, -4325, 0}, {32764, 0, 0, 0, 0, 0, 0, -494},
	}
	for _, n := range blocks() {
		for place := range n {
			var wantLeft, wantRight [8]int
			if place < 4 {
				wantLeft = left[place]
			}
			if n-1-place < 4 {
				wantRight = right[n-1-place]
			}
			checkSide(t, sides()[0], lists.Filled(n, lists.Single(place, 1)), wantLeft)
			checkSide(t, sides()[1], lists.Filled(n, lists.Single(place, 1)), wantRight)
		}
	}
}

// TestSideAll: P11.2, Left and Right, held against the chapter's words.
func TestSideAll(t *testing.T) {
	for _, s := range sides() {
		for _, n := range blocks() {
			for _, u := range inputs(n, maxBlock) {
				checkSide(t, s, u, s.words(u))
			}
		}
	}
}

// TestMeetKnown: P11.2, at the bounds, and at sums that lie just at a half, or beside it.
func TestMeetKnown(t *testing.T) {
	for _, c := range []struct{ sum, want int }{
		{0, 0}, {16383, 0}, {16384, 1}, {16385, 1}, {49151, 1}, {49152, 2}, {49153, 2}, {32768, 1},
		{-16383, 0}, {-16384, 0}, {-16385, -1}, {-49151, -1}, {-49152, -1}, {-49153, -2}, {-32768, -1},
		{1 << 47, 1 << 32}, {-1 << 47, -1 << 32}, {1<<47 - 16384, 1 << 32}, {1<<47 - 16385, 1<<32 - 1},
		{16384 - 1<<47, 1 - 1<<32}, {16383 - 1<<47, -1 << 32}, {maxMeet, 1 << 31}, {-maxMeet, -1 << 31},
	} {
		for _, part := range []int{0, 1, -1, 777, -maxMeet, maxMeet, c.sum / 2, c.sum} {
			rest := c.sum - part
			if max(part, rest) > maxMeet || min(part, rest) < -maxMeet {
				continue
			}
			checkMeet(t, eight(lists.Same(part)), eight(lists.Same(rest)), eight(lists.Same(c.want)))
			for k := range 8 {
				checkMeet(t, eight(lists.Single(k, part)), eight(lists.Single(k, rest)), eight(lists.Single(k, c.want)))
			}
		}
	}
}

// TestMeetAll: P11.2, held against the chapter's words.
func TestMeetAll(t *testing.T) {
	rnd := rand.New(rand.NewSource(11))
	for bits := range 256 {
		for _, right := range [][8]int{signed(bits, maxMeet), signed(0, maxMeet), signed(255, maxMeet), {}} {
			checkMeet(t, signed(bits, maxMeet), right, met(signed(bits, maxMeet), right))
			checkMeet(t, right, signed(bits, maxMeet), met(right, signed(bits, maxMeet)))
		}
	}
	for range 2000 {
		for _, size := range []int{1, 9, 16384, 100000, 1 << 39, maxMeet} {
			left, right := eight(lists.Drawn(rnd.Intn, -size, size)), eight(lists.Drawn(rnd.Intn, -size, size))
			checkMeet(t, left, right, met(left, right))
		}
	}
}

// TestMeetOutside: P11.2, of one number of either side, or of both, that lies outside its bounds: 0 there, and all other
// places as they are.
func TestMeetOutside(t *testing.T) {
	left, right := eight(func(k int) int { return 1<<20 + k<<16 }), eight(func(k int) int { return 1<<40 - k<<17 })
	whole := met(left, right)
	for k := range 8 {
		want := whole
		want[k] = 0
		for _, x := range outside(maxMeet) {
			badLeft, badRight := left, right
			badLeft[k], badRight[k] = x, x
			checkMeet(t, badLeft, right, want)
			checkMeet(t, left, badRight, want)
			checkMeet(t, badLeft, badRight, want)
			// The last one makes a sum of both that is within the bounds.
			for _, y := range []int{-maxMeet, maxMeet, 1<<20 - x} {
				badRight[k] = y
				checkMeet(t, badLeft, badRight, want)
				checkMeet(t, badRight, badLeft, want)
			}
		}
		badLeft, badRight := left, right
		badLeft[k], badRight[7-k] = most, least
		want[7-k] = 0
		checkMeet(t, badLeft, badRight, want)
	}
}

// checkComesBack folds samples into two blocks that meet, and holds what both leave against what they share.
func checkComesBack(t *testing.T, first, second int, x []int) {
	t.Helper()
	a, b := window.Fold(x[:first+8]), window.Fold(x[first:])
	if len(a) != first || len(b) != second {
		t.Fatalf("Fold has %d and %d numbers, want %d and %d", len(a), len(b), first, second)
	}
	for k, got := range window.Meet(window.Right(a), window.Left(b)) {
		if want := x[first+k]; got < want-offMeet || got > want+offMeet {
			t.Fatalf("of %v, in %d and %d, at %d comes back %d, off by more than %d from %d", x, first, second, k, got, offMeet, want)
		}
	}
}

// TestComesBack: P11.3.
func TestComesBack(t *testing.T) {
	rnd := rand.New(rand.NewSource(11))
	for _, first := range blocks() {
		for _, second := range blocks() {
			n := first + second + 8
			for _, x := range []int{0, 1, -1, low, high, low + 1} {
				checkComesBack(t, first, second, lists.Filled(n, lists.Same(x)))
				for k := range 8 {
					checkComesBack(t, first, second, lists.Filled(n, lists.Single(first+k, x)))
				}
			}
			for bits := range 256 {
				x := lists.Filled(n, lists.Either(rnd.Intn, low, high))
				for k := range 8 {
					x[first+k] = []int{low, high}[bits>>k&1]
				}
				checkComesBack(t, first, second, x)
			}
			for range 5000 {
				checkComesBack(t, first, second, lists.Filled(n, lists.Drawn(rnd.Intn, low, high)))
				checkComesBack(t, first, second, lists.Filled(n, lists.Drawn(rnd.Intn, -20, 20)))
				checkComesBack(t, first, second, lists.Filled(n, lists.Either(rnd.Intn, low, high)))
			}
		}
	}
}

// TestNoBlock: P11.1 and P11.2, of a nil list, and of every count up to 300 that there is no block of.
func TestNoBlock(t *testing.T) {
	counts := []int{512, 1024, 65536}
	for n := range 301 {
		counts = append(counts, n)
	}
	checkNone(t, nil)
	for _, s := range sides() {
		checkSide(t, s, nil, [8]int{})
	}
	for _, n := range counts {
		for _, x := range []int{0, 1, most} {
			if !slices.Contains(blocks(), n-8) {
				checkNone(t, lists.Filled(n, lists.Same(x)))
			}
			if slices.Contains(blocks(), n) {
				continue
			}
			for _, s := range sides() {
				checkSide(t, s, lists.Filled(n, lists.Same(x)), [8]int{})
			}
		}
	}
}

// TestNoNumber: P11.1 and P11.2, of one number, at each place, that lies outside its bounds, the others within them.
func TestNoNumber(t *testing.T) {
	for _, n := range blocks() {
		for _, other := range []int{0, 1000} {
			for _, bad := range outside(maxFold) {
				for place := range n + 8 {
					x := lists.Filled(n+8, lists.Same(other))
					x[place] = bad
					checkNone(t, x)
				}
			}
			for _, bad := range outside(maxBlock) {
				for place := range n {
					u := lists.Filled(n, lists.Same(other))
					u[place] = bad
					for _, s := range sides() {
						checkSide(t, s, u, [8]int{})
					}
				}
			}
		}
	}
}

// TestGivenStays: rules 0.5 and 7, what is given stays as it was, where there is no answer too, and each answer is new.
func TestGivenStays(t *testing.T) {
	rnd := rand.New(rand.NewSource(11))
	for _, n := range []int{7, 8, 16, 64, 72} {
		for _, bad := range []int{1, most, least} {
			x := lists.Filled(n, lists.Drawn(rnd.Intn, -maxFold, maxFold))
			x[n-1] = bad
			kept := slices.Clone(x)
			window.Left(x)
			window.Right(x)
			first, second := window.Fold(x), window.Fold(x)
			keptSecond := slices.Clone(second)
			for k := range first {
				first[k] = most
			}
			if !slices.Equal(second, keptSecond) {
				t.Fatal("one answer of Fold changed with another")
			}
			if !slices.Equal(x, kept) {
				t.Fatalf("what was given changed: %v, want %v", x, kept)
			}
			for k := range x {
				x[k] = least
			}
			if !slices.Equal(second, keptSecond) {
				t.Fatal("an answer of Fold changed with what it was given")
			}
		}
	}
}
