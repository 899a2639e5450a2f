package level_test

import (
	"math"
	"math/big"
	"math/rand"
	"testing"

	"splicer/level"
)

const (
	least  = math.MinInt
	most   = math.MaxInt
	maxNum = 1 << 30  // the greatest number that is made louder
	low    = -64      // the least gain
	high   = 32       // the greatest gain
	coarse = 23       // the greatest Coarse
	loud   = 14107901 // the greatest Amp
)

// chapter are the four steps that the chapter writes down.
func chapter() [4]int { return [4]int{16777216, 19951585, 23726566, 28215802} }

func wide(x int) *big.Int { return big.NewInt(int64(x)) }

// shifted is x by 2^n, to the nearest, halves upwards, worked out without bounds.
func shifted(x *big.Int, n int) *big.Int {
	top := new(big.Int).Lsh(x, 1)
	top.Add(top, new(big.Int).Lsh(wide(1), uint(n)))
	return top.Rsh(top, uint(n)+1)
}

// amp is the chapter's Amp, of what may be.
func amp(c, f int) int { return int(shifted(wide(chapter()[f]), 24-c).Int64()) }

// gain is the chapter's Gain, of what may be: octaves are counted from the least gain on, which begins the 16th below 0.
func gain(g int) int {
	q, r := (g-low)/4-16, (g-low)%4
	return int(shifted(wide(chapter()[r]), 8-q).Int64())
}

// applied is the chapter's Apply, of what may be, worked out without bounds.
func applied(x, g int) int {
	y := shifted(new(big.Int).Mul(wide(x), wide(gain(g))), 16)
	if y.Cmp(wide(32767)) > 0 {
		return 32767
	}
	if y.Cmp(wide(-32768)) < 0 {
		return -32768
	}
	return int(y.Int64())
}

// far are numbers that are neither a Coarse, nor a Fine, nor a gain.
func far() []int {
	l := []int{least, least + 1, least + 3, most - 3, most - 1, most}
	for n := 8; n < 62; n++ {
		for d := -2; d <= 2; d++ {
			l = append(l, 1<<n+d, -(1<<n)+d)
		}
	}
	return l
}

func checkApply(t *testing.T, x, g int) {
	t.Helper()
	if got, want := level.Apply(x, g), applied(x, g); got != want {
		t.Fatalf("Apply(%d, %d) = %d, want %d", x, g, got, want)
	}
}

func checkNoApply(t *testing.T, x, g int) {
	t.Helper()
	if got := level.Apply(x, g); got != 0 {
		t.Fatalf("Apply(%d, %d) = %d, want 0", x, g, got)
	}
}

func checkFind(t *testing.T, a, c, f int) {
	t.Helper()
	if gc, gf := level.Find(a); gc != c || gf != f {
		t.Fatalf("Find(%d) = %d, %d, want %d, %d", a, gc, gf, c, f)
	}
}

// TestExamples: the chapter's.
func TestExamples(t *testing.T) {
	for _, c := range []struct {
		call      string
		got, want int
	}{
		{"Amp(3, 0)", level.Amp(3, 0), 8},
		{"Gain(0)", level.Gain(0), 65536},
		{"Apply(100, 4)", level.Apply(100, 4), 200},
	} {
		if c.got != c.want {
			t.Errorf("%s = %d, want %d", c.call, c.got, c.want)
		}
	}
	checkFind(t, 9, 3, 0)
}

// TestSteps: P8.1 and P8.2, the four steps are the nearest to 2^24 times the powers of two of quarters; the loudest bands,
// and the gains 28 to 31, are half of them.
func TestSteps(t *testing.T) {
	for i, s := range chapter() {
		// (2s-1)^4 and (2s+1)^4 lie around (2 * 2^24)^4 2^i just when s is the nearest.
		true4 := new(big.Int).Lsh(wide(1), uint(100+i))
		below := new(big.Int).Exp(wide(2*s-1), wide(4), nil)
		above := new(big.Int).Exp(wide(2*s+1), wide(4), nil)
		if below.Cmp(true4) > 0 || above.Cmp(true4) < 0 {
			t.Errorf("the step %d is not the nearest", i)
		}
		if got, want := level.Amp(coarse, i), (s+1)/2; got != want {
			t.Errorf("Amp(%d, %d) = %d, want %d", coarse, i, got, want)
		}
		if got, want := level.Gain(28+i), (s+1)/2; got != want {
			t.Errorf("Gain(%d) = %d, want %d", 28+i, got, want)
		}
	}
}

// TestAmpKnown: P8.1, at both ends.
func TestAmpKnown(t *testing.T) {
	for _, c := range []struct{ c, f, want int }{
		{1, 0, 2}, {1, 1, 2}, {1, 2, 3}, {1, 3, 3}, {2, 0, 4}, {2, 1, 5}, {2, 2, 6}, {2, 3, 7},
		{3, 0, 8}, {3, 1, 10}, {3, 2, 11}, {3, 3, 13}, {4, 0, 16}, {4, 1, 19}, {4, 2, 23}, {4, 3, 27},
		{16, 0, 65536}, {16, 1, 77936}, {16, 2, 92682}, {16, 3, 110218},
		{22, 0, 4194304}, {22, 1, 4987896}, {22, 2, 5931642}, {22, 3, 7053951},
		{23, 0, 8388608}, {23, 1, 9975793}, {23, 2, 11863283}, {23, 3, loud},
	} {
		if got := level.Amp(c.c, c.f); got != c.want {
			t.Errorf("Amp(%d, %d) = %d, want %d", c.c, c.f, got, c.want)
		}
	}
}

// TestAmpAll: P8.1, of every Coarse and Fine.
func TestAmpAll(t *testing.T) {
	for c := 1; c <= coarse; c++ {
		for f := range 4 {
			if got, want := level.Amp(c, f), amp(c, f); got != want {
				t.Errorf("Amp(%d, %d) = %d, want %d", c, f, got, want)
			}
		}
	}
}

// TestNoAmp: P8.1, of what is no Coarse, or no Fine.
func TestNoAmp(t *testing.T) {
	noCoarse := append(far(), 0, -1, -2, -23, 24, 25, 26, 40, 84, 85)
	noFine := append(far(), -1, -2, -3, -4, 4, 5, 6, 7, 8)
	check := func(c, f int) {
		if got := level.Amp(c, f); got != 0 {
			t.Fatalf("Amp(%d, %d) = %d, want 0", c, f, got)
		}
	}
	for _, c := range noCoarse {
		for f := range 4 {
			check(c, f)
		}
		for _, f := range noFine {
			check(c, f)
		}
	}
	for _, f := range noFine {
		for c := 1; c <= coarse; c++ {
			check(c, f)
		}
	}
}

// TestFindKnown: P8.1, where two Fines are as loud as one another, at what is too quiet, and at both ends.
func TestFindKnown(t *testing.T) {
	for _, c := range []struct{ a, c, f int }{
		{least, 0, 0}, {least + 1, 0, 0}, {-1 << 40, 0, 0}, {-100, 0, 0}, {-2, 0, 0}, {-1, 0, 0}, {0, 0, 0}, {1, 0, 0},
		{2, 1, 1}, {3, 1, 3}, {4, 2, 0}, {5, 2, 1}, {6, 2, 2}, {7, 2, 3}, {8, 3, 0}, {9, 3, 0}, {10, 3, 1}, {11, 3, 2},
		{12, 3, 2}, {13, 3, 3}, {14, 3, 3}, {15, 3, 3}, {16, 4, 0}, {32767, 14, 3}, {32768, 15, 0},
		{8388607, 22, 3}, {8388608, 23, 0}, {loud - 1, 23, 2}, {loud, 23, 3}, {loud + 1, 23, 3},
		{1<<24 - 1, 23, 3}, {1 << 24, 23, 3}, {1<<24 + 1, 23, 3}, {1 << 26, 23, 3}, {1 << 60, 23, 3}, {most - 1, 23, 3}, {most, 23, 3},
	} {
		checkFind(t, c.a, c.c, c.f)
	}
}

// found is the chapter's Find: of all that are not above a the greatest Coarse, and of these the greatest Fine.
func found(a int) (int, int) {
	bc, bf := 0, 0
	for c := 1; c <= coarse; c++ {
		for f := range 4 {
			if a >= 2 && amp(c, f) <= a {
				bc, bf = c, f
			}
		}
	}
	return bc, bf
}

// TestFindAll: P8.1, of small numbers, of every Amp and the numbers beside it, of numbers about each power of two, and of
// others.
func TestFindAll(t *testing.T) {
	check := func(a int) {
		c, f := found(a)
		checkFind(t, a, c, f)
	}
	for a := -300; a <= 5000; a++ {
		check(a)
	}
	for c := 1; c <= coarse; c++ {
		for f := range 4 {
			for d := -2; d <= 2; d++ {
				check(level.Amp(c, f) + d)
			}
		}
	}
	for _, a := range far() {
		check(a)
	}
	rnd := rand.New(rand.NewSource(8))
	for range 20000 {
		check(int(rnd.Uint64()) >> rnd.Intn(64))
	}
}

// TestFindAmp: P8.1, what is found of an Amp is as loud as it, and what was asked, but where two are as loud.
func TestFindAmp(t *testing.T) {
	for c := 1; c <= coarse; c++ {
		for f := range 4 {
			a := level.Amp(c, f)
			gc, gf := level.Find(a)
			if level.Amp(gc, gf) != a || gc != c || gf != f && c > 1 {
				t.Errorf("Find(%d) = %d, %d, of Amp(%d, %d)", a, gc, gf, c, f)
			}
		}
	}
}

// TestGainKnown: P8.2, at both ends and about 0.
func TestGainKnown(t *testing.T) {
	for _, c := range []struct{ g, want int }{
		{-64, 1}, {-63, 1}, {-62, 1}, {-61, 2}, {-60, 2}, {-59, 2}, {-58, 3}, {-57, 3}, {-56, 4}, {-55, 5}, {-54, 6}, {-53, 7},
		{-52, 8}, {-8, 16384}, {-4, 32768}, {-3, 38968}, {-2, 46341}, {-1, 55109},
		{0, 65536}, {1, 77936}, {2, 92682}, {3, 110218}, {4, 131072}, {5, 155872}, {8, 262144},
		{28, 8388608}, {29, 9975793}, {30, 11863283}, {31, loud}, {32, 16777216},
	} {
		if got := level.Gain(c.g); got != c.want {
			t.Errorf("Gain(%d) = %d, want %d", c.g, got, c.want)
		}
	}
}

// TestGainAll: P8.2, of every gain.
func TestGainAll(t *testing.T) {
	for g := low; g <= high; g++ {
		if got, want := level.Gain(g), gain(g); got != want {
			t.Errorf("Gain(%d) = %d, want %d", g, got, want)
		}
	}
}

// noGains are numbers that are no gains.
func noGains() []int {
	return append(far(), -65, -66, -67, -68, -69, -100, -128, 33, 34, 35, 36, 37, 64, 100)
}

// TestNoGain: P8.2, of what is no gain.
func TestNoGain(t *testing.T) {
	for _, g := range noGains() {
		if got := level.Gain(g); got != 0 {
			t.Fatalf("Gain(%d) = %d, want 0", g, got)
		}
	}
}

// numbers are what is made louder: at the bounds, beside them, at samples' bounds, about 0 and about powers of two.
func numbers() []int {
	l := []int{-maxNum, -maxNum + 1, maxNum - 1, maxNum, 0, 100, -100, 30000, -30000, 32766, -32769}
	for n := range 30 {
		for d := -2; d <= 2; d++ {
			l = append(l, 1<<n+d, -(1<<n)+d)
		}
	}
	return l
}

// TestApplyAll: P8.2, of numbers at the bounds and between them, with every gain.
func TestApplyAll(t *testing.T) {
	for g := low; g <= high; g++ {
		for _, x := range numbers() {
			checkApply(t, x, g)
		}
	}
	rnd := rand.New(rand.NewSource(8))
	for range 50000 {
		checkApply(t, (rnd.Intn(2*maxNum+1)-maxNum)>>rnd.Intn(30), low+rnd.Intn(high-low+1))
	}
}

// TestApplyKnown: P8.2, of numbers at the bounds, where the quietest gains leave them within samples', and of others.
func TestApplyKnown(t *testing.T) {
	const m = maxNum
	for _, c := range []struct{ x, g, want int }{
		{m, -64, 16384}, {-m, -64, -16384}, {m, -62, 16384}, {m, -61, 32767}, {-m, -61, -32768}, {m, -60, 32767},
		{-m, -60, -32768}, {m, 0, 32767}, {-m, 0, -32768}, {m, 32, 32767}, {-m, 32, -32768},
		{0, -64, 0}, {0, 0, 0}, {0, 32, 0},
		{100, -4, 50}, {100, -8, 25}, {100, 1, 119}, {100, -1, 84}, {-100, 1, -119}, {-100, -1, -84}, {1, 32, 256}, {-1, 32, -256},
		{127, 32, 32512}, {128, 32, 32767}, {-128, 32, -32768}, {-129, 32, -32768},
		{32767, 1, 32767}, {-32768, 1, -32768}, {16383, 4, 32766}, {16384, 4, 32767}, {-16384, 4, -32768}, {-16385, 4, -32768},
		{30000, 8, 32767}, {-30000, 8, -32768}, {32767, 0, 32767}, {32768, 0, 32767}, {-32768, 0, -32768}, {-32769, 0, -32768},
		{65534, -4, 32767}, {65535, -4, 32767}, {-65536, -4, -32768}, {-65537, -4, -32768}, {-65538, -4, -32768},
	} {
		if got := level.Apply(c.x, c.g); got != c.want {
			t.Errorf("Apply(%d, %d) = %d, want %d", c.x, c.g, got, c.want)
		}
	}
}

// TestApplyHalves: P8.2, of numbers that lie just at a half, which is rounded upwards on both sides of 0.
func TestApplyHalves(t *testing.T) {
	for _, c := range []struct{ x, g, want int }{
		{1, -4, 1}, {-1, -4, 0}, {3, -4, 2}, {-3, -4, -1}, {5, -4, 3}, {-5, -4, -2}, {2, -8, 1}, {-2, -8, 0}, {6, -8, 2}, {-6, -8, -1},
		{32768, -64, 1}, {-32768, -64, 0}, {32767, -64, 0}, {-32769, -64, -1}, {98304, -64, 2}, {-98304, -64, -1},
	} {
		if got := level.Apply(c.x, c.g); got != c.want {
			t.Errorf("Apply(%d, %d) = %d, want %d", c.x, c.g, got, c.want)
		}
	}
	// Of each gain that has a bit below 2^16, the number that moves its lowest one to the half.
	for g := low; g <= high; g++ {
		n := gain(g)
		if n%(1<<16) == 0 {
			continue
		}
		x := 1 << 15
		for ; n%2 == 0; n /= 2 {
			x /= 2
		}
		if x*gain(g)&(1<<16-1) != 1<<15 {
			t.Fatalf("%d times the gain %d does not lie at a half", x, g)
		}
		for _, odd := range []int{-5, -3, -1, 1, 3, 5} {
			checkApply(t, odd*x, g)
			checkApply(t, odd*x-1, g)
			checkApply(t, odd*x+1, g)
		}
	}
}

// TestNoApply: P8.2, of numbers or gains that are none, beside ones that are, and together.
func TestNoApply(t *testing.T) {
	bad := []int{-maxNum - 1, maxNum + 1, -maxNum - 2, maxNum + 2, least, least + 1, most - 1, most}
	for n := 31; n < 63; n++ {
		bad = append(bad, -1<<n-1, -1<<n, -1<<n+1, 1<<n-1, 1<<n, 1<<n+1)
	}
	for _, x := range bad {
		for g := low; g <= high; g++ {
			checkNoApply(t, x, g)
		}
		for _, g := range noGains() {
			checkNoApply(t, x, g)
		}
	}
	for _, g := range noGains() {
		for _, x := range numbers() {
			checkNoApply(t, x, g)
		}
	}
}

// TestLouderAmp: P8.3, by a step: two of the quietest bands' steps are too small to be told by whole numbers.
func TestLouderAmp(t *testing.T) {
	for i := 5; i <= 4*coarse+3; i++ {
		was, now := level.Amp((i-1)/4, (i-1)%4), level.Amp(i/4, i%4)
		alike := i == 5 || i == 7
		if now < was || now == was != alike {
			t.Errorf("Amp(%d, %d) = %d, and %d a step below it", i/4, i%4, now, was)
		}
	}
}

// TestLouderGain: P8.3, by a step: five of the quietest gains' steps are too small to be told by whole numbers.
func TestLouderGain(t *testing.T) {
	for g := low + 1; g <= high; g++ {
		was, now := level.Gain(g-1), level.Gain(g)
		alike := g == -63 || g == -62 || g == -60 || g == -59 || g == -57
		if now < was || now == was != alike {
			t.Errorf("Gain(%d) = %d, and %d a step below it", g, now, was)
		}
		for _, x := range numbers() {
			a, b := level.Apply(x, g-1), level.Apply(x, g)
			if x >= 0 && b < a || x <= 0 && b > a {
				t.Fatalf("Apply(%d, %d) = %d, which is quieter than %d, a step below it", x, g, b, a)
			}
		}
	}
}

// TestFourSteps: P8.3, by four steps.
func TestFourSteps(t *testing.T) {
	for c := 2; c <= coarse; c++ {
		for f := range 4 {
			if off := level.Amp(c, f) - 2*level.Amp(c-1, f); level.Amp(c, f) == 0 || off < -1 || off > 1 {
				t.Errorf("Amp(%d, %d) is off by %d from twice the one four steps below it", c, f, off)
			}
		}
	}
	for g := low + 4; g <= high; g++ {
		if off := level.Gain(g) - 2*level.Gain(g-4); level.Gain(g) == 0 || off < -1 || off > 1 {
			t.Errorf("Gain(%d) is off by %d from twice the one four steps below it", g, off)
		}
	}
}

// TestGainZero: P8.3, of every sample.
func TestGainZero(t *testing.T) {
	for x := -32768; x <= 32767; x++ {
		if got := level.Apply(x, 0); got != x {
			t.Fatalf("Apply(%d, 0) = %d", x, got)
		}
	}
}
