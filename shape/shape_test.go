package shape_test

import (
	"math"
	"math/rand"
	"slices"
	"testing"

	"splicer/level"
	"splicer/lists"
	"splicer/num"
	"splicer/pvq"
	"splicer/root"
	"splicer/shape"
)

const (
	least  = math.MinInt
	most   = math.MaxInt
	wide   = 8       // the most numbers that pulses are
	full   = 24      // the most that they are from 0 in all
	coarse = 23      // the greatest Coarse
	fine   = 3       // the greatest Fine
	frame  = 64      // the most numbers that have a power
	far    = 1 << 26 // the farthest from 0 that each of them may be
)

// bands asks f of each Coarse and Fine.
func bands(f func(c, f int)) {
	for c := range coarse + 1 {
		for fine := range fine + 1 {
			f(c, fine)
		}
	}
}

// all: the pulses of n numbers, up to 24 from 0 in all.
func all(n int) [][]int {
	var l [][]int
	for k := range full + 1 {
		for i := range pvq.Count(n, k) {
			x, _ := pvq.Vector(n, k, i)
			l = append(l, x)
		}
	}
	return l
}

// drawn: pulses of n numbers, k from 0 in all.
func drawn(rnd *rand.Rand, n, k int) []int {
	x, _ := pvq.Vector(n, k, rnd.Intn(pvq.Count(n, k)))
	return x
}

// many: drawn pulses of each count of numbers, of each that they may be from 0 in all.
func many(times int) [][]int {
	rnd := rand.New(rand.NewSource(17))
	var l [][]int
	for n := 1; n <= wide; n++ {
		for k := range full + 1 {
			for range times {
				l = append(l, drawn(rnd, n, k))
			}
		}
	}
	return l
}

// sum: of all squares.
func sum(x []int) int {
	s := 0
	for _, v := range x {
		s += v * v
	}
	return s
}

// coefficients are the chapter's words, of what may be.
func coefficients(x []int, c, f int) []int {
	y := make([]int, len(x))
	if sum(x) == 0 || c == 0 {
		return y
	}
	a, r := level.Amp(c, f), root.Sqrt(sum(x)<<20)
	for i, v := range x {
		y[i] = num.Div(a*max(v, -v)<<10, r)
		if v < 0 {
			y[i] = -y[i]
		}
	}
	return y
}

func checkValues(t *testing.T, x []int, c, f int, want ...int) {
	t.Helper()
	if got, ok := shape.Values(x, c, f); !slices.Equal(got, want) || !ok {
		t.Fatalf("Values(%v, %d, %d) = %v, %t, want %v, true", x, c, f, got, ok, want)
	}
}

func checkNoValues(t *testing.T, x []int, c, f int) {
	t.Helper()
	if got, ok := shape.Values(x, c, f); got != nil || ok {
		t.Fatalf("Values(%v, %d, %d) = %v, %t, want none, false", x, c, f, got, ok)
	}
}

func checkPower(t *testing.T, x []int, want int) {
	t.Helper()
	if got := shape.Power(x); got != want {
		t.Fatalf("Power(%v) = %d, want %d", x, got, want)
	}
	wc, wf := level.Find(want)
	if c, f := shape.Level(x); c != wc || f != wf {
		t.Fatalf("Level(%v) = %d, %d, want %d, %d", x, c, f, wc, wf)
	}
}

// TestExamples: the chapter's, and those of its stage.
func TestExamples(t *testing.T) {
	checkValues(t, []int{1, 0}, 4, 0, 16, 0)
	checkNoValues(t, nil, 4, 0)
	checkPower(t, []int{3, -4}, 5)
	if c, f := shape.Level([]int{3, -4}); c != 2 || f != 1 {
		t.Errorf("Level(3, -4) = %d, %d, want 2, 1", c, f)
	}
}

// TestByHand: P17.1, worked out by hand: of one number, which is as far from 0 as the band is loud; of roots that are whole,
// and that are not; of halves, on both sides of 0; and of a pulse that is too small to be heard.
func TestByHand(t *testing.T) {
	checkValues(t, []int{1}, 1, 0, 2)
	checkValues(t, []int{-24}, 1, 0, -2)
	checkValues(t, []int{7}, 23, 3, 14107901)
	checkValues(t, []int{-7}, 23, 3, -14107901)
	checkValues(t, []int{3, -4}, 10, 0, 614, -819)          // 1024 3/5 and 4/5
	checkValues(t, []int{-6, -8}, 5, 0, -19, -26)           // 32 3/5 and 4/5
	checkValues(t, []int{1, -1}, 4, 0, 11, -11)             // 16 1024 / 1448
	checkValues(t, []int{1, 1}, 23, 3, 9976858, 9976858)    // the root of 2 comes as 1448 parts
	checkValues(t, []int{1, -1, 1, -1}, 1, 2, 2, -2, 2, -2) // 3 halves
	checkValues(t, []int{2, -2, 2, -2}, 2, 1, 3, -3, 3, -3) // 5 halves
	checkValues(t, []int{1, 23}, 1, 0, 0, 2)
	checkValues(t, []int{-1, -23}, 1, 0, 0, -2)
	checkValues(t, []int{3, 3, 3, 3, -3, -3, -3, -3}, 3, 0, 3, 3, 3, 3, -3, -3, -3, -3) // 8 divided by the root of 8
}

// TestAll: P17.1, of all pulses of one, of two and of three numbers, with every Coarse and Fine.
func TestAll(t *testing.T) {
	for n := 1; n <= 3; n++ {
		for _, x := range all(n) {
			bands(func(c, f int) { checkValues(t, x, c, f, coefficients(x, c, f)...) })
		}
	}
}

// TestDrawn: P17.1, of many drawn pulses of each count of numbers, with every Coarse and Fine.
func TestDrawn(t *testing.T) {
	for _, x := range many(20) {
		bands(func(c, f int) { checkValues(t, x, c, f, coefficients(x, c, f)...) })
	}
}

// TestEnds: P17.1, of pulses that are all at one place, which is as far from 0 as the band is loud.
func TestEnds(t *testing.T) {
	for n := 1; n <= wide; n++ {
		for place := range n {
			for _, k := range []int{1, 2, full - 1, full} {
				bands(func(c, f int) {
					a := level.Amp(c, f)
					checkValues(t, lists.Filled(n, lists.Single(place, k)), c, f, lists.Filled(n, lists.Single(place, a))...)
					checkValues(t, lists.Filled(n, lists.Single(place, -k)), c, f, lists.Filled(n, lists.Single(place, -a))...)
				})
			}
		}
	}
}

// TestSilent: P17.1, as many numbers 0 as there are, where all are 0, however loud the band is, and where Coarse is 0,
// whatever the pulses are.
func TestSilent(t *testing.T) {
	for n := 1; n <= wide; n++ {
		none := make([]int, n)
		bands(func(c, f int) { checkValues(t, none, c, f, none...) })
	}
	for _, x := range many(5) {
		for f := range fine + 1 {
			checkValues(t, x, 0, f, make([]int, len(x))...)
		}
	}
	checkValues(t, []int{1, 0, most}[:2], 4, 0, 16, 0) // what lies behind a list's end is none of its numbers
}

// TestNoBand: P17.1, of Coarses and Fines that there are not, alone and with one another, of pulses and of numbers 0.
func TestNoBand(t *testing.T) {
	noCoarse := append(lists.Beyond(), -1, coarse+1, -2, coarse+2, -coarse, 64)
	noFine := append(lists.Beyond(), -1, fine+1, -2, fine+2, -fine, 64)
	for _, x := range [][]int{{0}, {1}, {0, 0}, {1, 0}, {3, -4}, make([]int, wide), {3, 3, 3, 3, 3, 3, 3, 3}} {
		for _, c := range noCoarse {
			for f := range fine + 1 {
				checkNoValues(t, x, c, f)
			}
			for _, f := range noFine {
				checkNoValues(t, x, c, f)
			}
		}
		for _, f := range noFine {
			for c := range coarse + 1 {
				checkNoValues(t, x, c, f)
			}
		}
	}
}

// TestNoPulses: P17.1, of no numbers, of too many, of those that are 25 or more from 0 in all, and of those far beyond.
func TestNoPulses(t *testing.T) {
	no := [][]int{
		nil, {}, make([]int, 0, wide), make([]int, wide+1), lists.Filled(wide+1, lists.Single(wide, 1)), make([]int, frame),
		{full + 1}, {-full - 1}, {full, 1}, {full, -1}, {full, -full}, {13, -12}, {3, 3, 3, 3, 3, 3, 3, 4}, {-4, 3, 3, 3, 3, 3, 3, 3},
	}
	for _, x := range lists.Beyond() {
		no = append(no, []int{x}, []int{x, x}, []int{x, -x}, lists.Filled(wide, lists.Same(x)))
		for place := range 4 {
			no = append(no, lists.Filled(4, lists.Single(place, x)))
		}
	}
	for _, x := range no {
		bands(func(c, f int) { checkNoValues(t, x, c, f) })
		checkNoValues(t, x, -1, 0)
		checkNoValues(t, x, 0, -1)
		checkNoValues(t, x, coarse+1, fine+1)
	}
}

// TestPowerByHand: P17.2, of nothing, of what is too quiet, of roots that are whole and that are not, and of the most.
func TestPowerByHand(t *testing.T) {
	for _, k := range []struct {
		x           []int
		power, c, f int
	}{
		{nil, 0, 0, 0}, {[]int{}, 0, 0, 0}, {make([]int, 0, frame), 0, 0, 0}, {make([]int, frame), 0, 0, 0},
		{[]int{1}, 1, 0, 0}, {[]int{-1}, 1, 0, 0}, {[]int{1, -1}, 1, 0, 0}, {[]int{1, 1, 1}, 1, 0, 0}, {[]int{1, -1, 1, -1}, 2, 1, 1},
		{[]int{2, 2}, 2, 1, 1}, {[]int{2, -2, 1}, 3, 1, 3}, {[]int{5, 12}, 13, 3, 3}, {[]int{-16}, 16, 4, 0},
		{lists.Filled(frame, lists.Same(1)), 8, 3, 0}, {lists.Filled(frame, lists.Same(-1)), 8, 3, 0}, {lists.Filled(frame-1, lists.Same(1)), 7, 2, 3},
		{[]int{far}, far, coarse, fine}, {[]int{-far}, far, coarse, fine}, {[]int{far, far}, 94906265, coarse, fine},
		{lists.Filled(frame, lists.Same(far)), 8 * far, coarse, fine}, {lists.Filled(frame, lists.Same(-far)), 8 * far, coarse, fine},
	} {
		checkPower(t, k.x, k.power)
		if c, f := shape.Level(k.x); c != k.c || f != k.f {
			t.Errorf("Level(%v) = %d, %d, want %d, %d", k.x, c, f, k.c, k.f)
		}
	}
	checkPower(t, []int{3, 4, most}[:2], 5) // what lies behind a list's end is none of its numbers
}

// TestPower: P17.2, of each count of numbers, drawn near to 0, as far from it as they may be, and between.
func TestPower(t *testing.T) {
	rnd := rand.New(rand.NewSource(17))
	for n := range frame + 1 {
		for size := 1; size <= far; size *= 4 {
			for range 20 {
				x := lists.Filled(n, lists.Drawn(rnd.Intn, -size, size))
				checkPower(t, x, root.Sqrt(sum(x)))
			}
		}
		checkPower(t, lists.Filled(n, lists.Either(rnd.Intn, far, -far)), root.Sqrt(n*far*far))
		for place := range n {
			checkPower(t, lists.Filled(n, lists.Single(place, far)), far)
			checkPower(t, lists.Filled(n, lists.Single(place, -far)), far)
		}
	}
}

// TestNoPower: P17.2, of more numbers than a frame has, and of one that lies beyond the bounds at any place.
func TestNoPower(t *testing.T) {
	for n := frame + 1; n <= 3*frame; n++ {
		for _, x := range []int{1, -1, 100, far, -far} {
			checkPower(t, lists.Filled(n, lists.Same(x)), 0)
			checkPower(t, lists.Filled(n, lists.Single(n-1, x)), 0)
			checkPower(t, lists.Filled(n, lists.Single(0, x)), 0)
		}
	}
	no := append(lists.Beyond(), far+1, -far-1, far+2, -far-2, 2*far, -2*far, 1<<30)
	for _, n := range []int{1, 2, 3, wide, frame - 1, frame, frame + 1} {
		for place := range n {
			for _, x := range no {
				for _, other := range []int{0, 1, -far} {
					l := lists.Filled(n, lists.Same(other))
					l[place] = x
					checkPower(t, l, 0)
				}
			}
		}
		for _, x := range no {
			checkPower(t, lists.Filled(n, lists.Same(x)), 0)
		}
	}
}

// TestLoud: P17.3, the power of coefficients is off from how loud the band is by as many as it has at most, beside a
// thousandth, by which the root of the pulses' squares may be off.
func TestLoud(t *testing.T) {
	for _, x := range append(many(20), all(2)...) {
		if sum(x) == 0 {
			continue
		}
		bands(func(c, f int) {
			y, _ := shape.Values(x, c, f)
			a := level.Amp(c, f)
			if p := shape.Power(y); p < a-len(x)-a/1000 || p > a+len(x)+a/1000 {
				t.Fatalf("the power of Values(%v, %d, %d) is %d, but the band's is %d", x, c, f, p, a)
			}
		})
	}
}

// TestSides: P17.3, each coefficient lies on the side of its pulse, or is 0; of two pulses the one that is farther from 0
// has no coefficient nearer to it, and two that are as far from it have coefficients that are as far.
func TestSides(t *testing.T) {
	for _, x := range append(many(20), all(2)...) {
		bands(func(c, f int) {
			y, ok := shape.Values(x, c, f)
			if !ok || len(y) != len(x) {
				t.Fatalf("Values(%v, %d, %d) = %v, %t, want as many, true", x, c, f, y, ok)
			}
			for i := range x {
				if y[i] > 0 && x[i] <= 0 || y[i] < 0 && x[i] >= 0 {
					t.Fatalf("Values(%v, %d, %d) = %v, on another side at %d", x, c, f, y, i)
				}
				for j := range x {
					if num.Abs(x[i]) >= num.Abs(x[j]) && num.Abs(y[i]) < num.Abs(y[j]) {
						t.Fatalf("Values(%v, %d, %d) = %v, nearer to 0 at %d than at %d", x, c, f, y, i, j)
					}
				}
			}
		})
	}
}

// TestGivenStays: rules 0.5 and 7, what is given stays as it was, where there is no answer too, and what is told shares its
// numbers neither with it nor with another answer.
func TestGivenStays(t *testing.T) {
	for _, given := range [][]int{{}, {5}, {1, -2, 0}, {-3, 3, -3, 3, -3, 3, -3, 3}, {24, 1}, {least, most}, make([]int, wide), make([]int, wide+1), make([]int, frame+1)} {
		for _, c := range []int{-1, 0, 1, 12, coarse, coarse + 1} {
			x := slices.Clone(given)
			shape.Power(x)
			shape.Level(x)
			first, _ := shape.Values(x, c, 1)
			second, _ := shape.Values(x, c, 1)
			want := slices.Clone(second)
			lists.Spoil(first)
			if !slices.Equal(x, given) {
				t.Fatalf("what shape was given changed: %v, want %v", x, given)
			}
			lists.Spoil(x)
			if !slices.Equal(second, want) {
				t.Fatalf("an answer of Values(%v, %d, 1) changed with what it was given, or with another answer", given, c)
			}
		}
	}
}
