package lap_test

import (
	"math"
	"math/big"
	"math/rand"
	"slices"
	"testing"

	"splicer/dct"
	"splicer/lap"
	"splicer/lists"
	"splicer/num"
	"splicer/trig"
	"splicer/window"
)

const (
	least       = math.MinInt
	most        = math.MaxInt
	maxSpectrum = 1 << 25 // the greatest number of a spectrum
	maxTail     = 1 << 45 // the greatest of a tail
	low         = -32768  // the least sample
	high        = 32767   // the greatest one
	offExact    = 2       // the most that a sample is off from the exact sums
	offBack     = 24      // the most that a sample which comes back is off
)

// forms: long, and short.
func forms() []bool { return []bool{false, true} }

// picked is the chapter's words: the numbers at b, 8 + b, 16 + b and so on.
func picked(x []int, b int) []int {
	var l []int
	for ; b < len(x); b += 8 {
		l = append(l, x[b])
	}
	return l
}

// blocksOf are the chapter's blocks of a spectrum.
func blocksOf(table *trig.Table, x []int, short bool) [][]int {
	if !short {
		return [][]int{dct.Back(table, x)}
	}
	var l [][]int
	for b := 0; b <= 7; b++ {
		l = append(l, dct.Back(table, picked(x, b)))
	}
	return l
}

// framed is the chapter's words, block by block.
func framed(table *trig.Table, tail [8]int, x []int, short bool) ([]int, [8]int) {
	var s []int
	for _, u := range blocksOf(table, x, short) {
		shared := window.Meet(tail, window.Left(u))
		s = append(s, shared[:]...)
		if !short {
			s = append(s, u[4:60]...)
		}
		tail = window.Right(u)
	}
	for k := range s {
		s[k] = max(low, min(s[k], high))
	}
	return s, tail
}

// taken is the chapter's words of what is taken of samples.
func taken(table *trig.Table, s []int, short bool) []int {
	if !short {
		return dct.Fast(table, window.Fold(s))
	}
	x := make([]int, 64)
	for b := 0; b <= 7; b++ {
		l := dct.Fast(table, window.Fold(s[8*b:8*b+16]))
		if l == nil {
			return nil
		}
		for k := range 8 {
			x[8*k+b] = l[k]
		}
	}
	return x
}

func eight(at func(int) int) [8]int { return [8]int(lists.Filled(8, at)) }

// spectra: small ones, of one number at each place, at the bounds, drawn ones.
func spectra() [][]int {
	var l [][]int
	add := func(at func(int) int) { l = append(l, lists.Filled(64, at)) }
	for _, x := range []int{0, 1, -1, 1000, maxSpectrum - 1, maxSpectrum, 1 - maxSpectrum, -maxSpectrum} {
		add(lists.Same(x))
	}
	add(func(i int) int { return maxSpectrum - 2*maxSpectrum*(i%2) })
	add(func(i int) int { return maxSpectrum - 2*maxSpectrum*(i/8%2) })
	add(func(i int) int { return maxSpectrum - i })
	for place := range 64 {
		for _, x := range []int{1, -9, 1000, 1 << 19, -1 << 20, maxSpectrum, -maxSpectrum} {
			add(lists.Single(place, x))
		}
	}
	rnd := rand.New(rand.NewSource(12))
	for range 100 {
		for _, size := range []int{1, 30, 1000, 1 << 16, 1 << 18, 1 << 19, maxSpectrum} {
			add(lists.Drawn(rnd.Intn, -size, size))
		}
		add(lists.Either(rnd.Intn, -maxSpectrum, maxSpectrum))
		add(lists.Either(rnd.Intn, -1<<17, 1<<17))
	}
	return l
}

// tails: none left, small ones, of one number at each place, at the bounds, drawn ones.
func tails() [][8]int {
	l := [][8]int{{}}
	add := func(at func(int) int) { l = append(l, eight(at)) }
	for _, x := range []int{1, -1, 16384, -16384, 16383, -16385, 1 << 29, maxTail - 1, maxTail, 1 - maxTail, -maxTail} {
		add(lists.Same(x))
	}
	add(func(k int) int { return maxTail - 2*maxTail*(k%2) })
	for place := range 8 {
		for _, x := range []int{1 << 28, -1 << 29, maxTail, -maxTail} {
			add(lists.Single(place, x))
		}
	}
	rnd := rand.New(rand.NewSource(12))
	for range 20 {
		for _, size := range []int{40000, 1 << 25, 1 << 30, maxTail} {
			add(lists.Drawn(rnd.Intn, -size, size))
		}
		add(lists.Either(rnd.Intn, -maxTail, maxTail))
	}
	return l
}

// sounds: n samples each, quiet, loud, at the bounds, of one sample at some places, drawn ones.
func sounds(n, draws int) [][]int {
	var l [][]int
	add := func(at func(int) int) { l = append(l, lists.Filled(n, at)) }
	for _, x := range []int{0, 1, -1, 1000, low, low + 1, high - 1, high} {
		add(lists.Same(x))
	}
	for _, width := range []int{1, 2, 3, 4, 8, 36, 64} {
		add(func(i int) int { return []int{low, high}[i/width%2] })
		add(func(i int) int { return []int{high, low}[(i+width/2)/width%2] })
	}
	for place := 0; place < n; place += 1 + n/200 {
		add(lists.Single(place, high))
		add(lists.Single(place, low))
	}
	rnd := rand.New(rand.NewSource(int64(n)))
	for range draws {
		add(lists.Drawn(rnd.Intn, -20, 20))
		add(lists.Drawn(rnd.Intn, -1000, 1000))
		add(lists.Drawn(rnd.Intn, low, high))
		add(lists.Either(rnd.Intn, low, high))
	}
	return l
}

func checkFrame(t *testing.T, table *trig.Table, tail [8]int, x []int, short bool) {
	t.Helper()
	got, gotTail := lap.Frame(table, tail, x, short)
	want, wantTail := framed(table, tail, x, short)
	if !slices.Equal(got, want) || gotTail != wantTail {
		t.Fatalf("Frame(%v, %v, %t) = %v, %v, want %v, %v", tail, x, short, got, gotTail, want, wantTail)
	}
}

func checkNoFrame(t *testing.T, table *trig.Table, tail [8]int, x []int) {
	t.Helper()
	for _, short := range forms() {
		if got, gotTail := lap.Frame(table, tail, x, short); got != nil || gotTail != [8]int{} {
			t.Fatalf("Frame(%v, %d numbers %v, %t) = %v, %v, want none and 0", tail, len(x), x, short, got, gotTail)
		}
	}
}

func checkTake(t *testing.T, table *trig.Table, s []int, short bool) {
	t.Helper()
	if got, want := lap.Take(table, s, short), taken(table, s, short); !slices.Equal(got, want) {
		t.Fatalf("Take(%v, %t) = %v, want %v", s, short, got, want)
	}
}

func checkNoTake(t *testing.T, table *trig.Table, s []int) {
	t.Helper()
	for _, short := range forms() {
		if got := lap.Take(table, s, short); got != nil {
			t.Fatalf("Take(%d numbers %v, %t) = %v, want none", len(s), s, short, got)
		}
	}
}

func checkNoPick(t *testing.T, x []int, b int) {
	t.Helper()
	if got := lap.Pick(x, b); got != nil {
		t.Fatalf("Pick(%d numbers, %d) = %v, want none", len(x), b, got)
	}
}

func checkNoLay(t *testing.T, l [][]int) {
	t.Helper()
	if got := lap.Lay(l); got != nil {
		t.Fatalf("Lay(%v) = %v, want none", l, got)
	}
}

// eights: n lists of eight numbers, all of them different.
func eights(n int) [][]int {
	l := make([][]int, n)
	for b := range l {
		l[b] = lists.Filled(8, func(k int) int { return 100*b + k + 1 })
	}
	return l
}

// TestExample: the chapter's.
func TestExample(t *testing.T) {
	for _, short := range forms() {
		s, tail := lap.Frame(trig.Make(), [8]int{}, make([]int, 64), short)
		if !slices.Equal(s, make([]int, 64)) || tail != [8]int{} {
			t.Errorf("Frame of numbers 0 = %v, %v", s, tail)
		}
	}
}

// TestFrameKnown: P12.1, of one number whose block is a table of cosines by 2^9: its samples and its tail are told by hand.
func TestFrameKnown(t *testing.T) {
	s, tail := lap.Frame(trig.Make(), [8]int{}, lists.Filled(64, lists.Single(0, 1<<20)), false)
	// Of the cosines 16775953, 16765847 and so on the block begins with 32766, 32746, 32706, 32647, 32568, 32470, 32352, and
	// ends with 4410, 3612, 2811, 2009, 1206, 402.
	want := map[int]int{0: 492, 1: 4317, 2: 11199, 3: 19362, 4: 26433, 5: 30771, 6: 32420, 7: 32643, 8: 32568, 9: 32470, 10: 32352, 62: 4410, 63: 3612}
	for k, x := range want {
		if s[k] != x {
			t.Errorf("of a long frame at %d %d, want %d", k, s[k], x)
		}
	}
	wantTail := [8]int{2811 * 32764, 2009 * 32481, 1206 * 30792, 402 * 26435, -402 * 19363, -1206 * 11207, -2009 * 4325, -2811 * 494}
	if tail != wantTail {
		t.Errorf("behind a long frame %v, want %v", tail, wantTail)
	}
}

// TestFrameShortKnown: P12.1, of one number of each short block, the block of which is a table of cosines by 2^9.
func TestFrameShortKnown(t *testing.T) {
	// Of the cosines of 8, 24, 40 and so on: 32610, 31357, 28899, 25330, 20788, 15447, 9512, 3212; by 2^15 the block leaves
	// these, the first eight to its left.
	samples := []int{382, 3814, 10724, 19270, 26308, 29466, 28646, 25327, 20785, 15312, 8938, 2591, -1898, -3253, -2039, -313}
	last := [8]int{20788 * 32764, 15447 * 32481, 9512 * 30792, 3212 * 26435, -3212 * 19363, -9512 * 11207, -15447 * 4325, -20788 * 494}
	for b := range 8 {
		want := make([]int, 72)
		copy(want[8*b:], samples)
		s, tail := lap.Frame(trig.Make(), [8]int{}, lists.Filled(64, lists.Single(b, 1<<17)), true)
		if !slices.Equal(s, want[:64]) {
			t.Errorf("of the short block %d %v, want %v", b, s, want[:64])
		}
		var wantTail [8]int
		if b == 7 {
			wantTail = last
		}
		if tail != wantTail {
			t.Errorf("behind the short block %d %v, want %v", b, tail, wantTail)
		}
	}
}

// TestFrameAll: P12.1, held against the chapter's words, block by block.
func TestFrameAll(t *testing.T) {
	table := trig.Make()
	few := tails()
	for i, x := range spectra() {
		for _, short := range forms() {
			checkFrame(t, table, [8]int{}, x, short)
			for k := range 8 {
				checkFrame(t, table, few[(8*i+k)%len(few)], x, short)
			}
		}
	}
}

// TestFrameTails: P12.1, of all tails, behind which come spectra that are still, quiet and loud.
func TestFrameTails(t *testing.T) {
	table := trig.Make()
	rnd := rand.New(rand.NewSource(12))
	for _, tail := range tails() {
		for _, size := range []int{0, 1, 1 << 17, maxSpectrum} {
			for _, short := range forms() {
				checkFrame(t, table, tail, lists.Filled(64, lists.Drawn(rnd.Intn, -size, size)), short)
			}
		}
	}
}

// TestFrameHeld: P12.1, samples that lie on both sides of both bounds, shared ones and others.
func TestFrameHeld(t *testing.T) {
	table := trig.Make()
	for sample, want := range map[int]int{high: high, high + 1: high, high - 1: high - 1, low: low, low - 1: low, low + 1: low + 1, 1 << 30: high, -1 << 30: low} {
		for _, short := range forms() {
			s, tail := lap.Frame(table, eight(lists.Same(sample<<15)), make([]int, 64), short)
			if !slices.Equal(s[:8], lists.Filled(8, lists.Same(want))) || !slices.Equal(s[8:], make([]int, 56)) || tail != [8]int{} {
				t.Errorf("of a tail of %d come %v, %v", sample, s, tail)
			}
		}
	}
	for _, x := range []int{maxSpectrum, -maxSpectrum} {
		want := max(low, min(x, high))
		long, _ := lap.Frame(table, [8]int{}, lists.Filled(64, lists.Single(0, x)), false)
		if !slices.Equal(long[3:59], lists.Filled(56, lists.Same(want))) {
			t.Errorf("of a long block of %d at 0 come %v", x, long)
		}
		short, _ := lap.Frame(table, [8]int{}, lists.Filled(64, func(k int) int { return x * (1 - min(k/8, 1)) }), true)
		if !slices.Equal(short[4:], lists.Filled(60, lists.Same(want))) {
			t.Errorf("of short blocks of %d at 0 come %v", x, short)
		}
	}
}

// TestPickLay: P12.1, each of both against the chapter's words, and each the other's way back, whatever the numbers are.
func TestPickLay(t *testing.T) {
	rnd := rand.New(rand.NewSource(12))
	for round := range 100 {
		x := lists.Filled(64, func(int) int { return int(rnd.Uint64()) })
		if round == 0 {
			x = lists.Filled(64, func(i int) int { return i })
		}
		x[round%64], x[(round+9)%64] = least, most
		l := make([][]int, 8)
		for b := range l {
			l[b] = lap.Pick(x, b)
			if !slices.Equal(l[b], picked(x, b)) {
				t.Fatalf("Pick(%v, %d) = %v, want %v", x, b, l[b], picked(x, b))
			}
		}
		back := lap.Lay(l)
		if !slices.Equal(back, x) {
			t.Fatalf("Lay(%v) = %v, want %v", l, back, x)
		}
		for b := range l {
			if !slices.Equal(lap.Pick(back, b), l[b]) {
				t.Fatalf("Pick(%v, %d) = %v, want %v", back, b, lap.Pick(back, b), l[b])
			}
		}
	}
	want := lists.Filled(64, func(i int) int { return 100*(i%8) + i/8 + 1 })
	if got := lap.Lay(eights(8)); !slices.Equal(got, want) {
		t.Errorf("Lay(%v) = %v, want %v", eights(8), got, want)
	}
}

// TestTakeKnown: P12.2, of one sample: it stands in the one or two short blocks that have it; of a long frame it makes a
// cosine.
func TestTakeKnown(t *testing.T) {
	table := trig.Make()
	for place := range 72 {
		x := lap.Take(table, lists.Filled(72, lists.Single(place, high)), true)
		for b := range 8 {
			still := slices.Equal(lap.Pick(x, b), make([]int, 8))
			if has := b == place/8 || b == place/8-1; still == has {
				t.Errorf("of a sample at %d the short block %d is %v", place, b, lap.Pick(x, b))
			}
		}
	}
	x := lap.Take(table, lists.Filled(72, lists.Single(8, 1<<14)), false) // by 2^10 the cosines of 9, 27, 45 and so on
	for k, want := range map[int]int{0: 16284, 1: 15493, 2: 13949, 63: 1806} {
		if num.Abs(x[k]-want) > 64 {
			t.Errorf("of a sample of a long frame at %d %d, off by more than 64 from %d", k, x[k], want)
		}
	}
}

// TestTakeAll: P12.2, held against the chapter's words.
func TestTakeAll(t *testing.T) {
	table := trig.Make()
	for _, s := range sounds(72, 300) {
		for _, short := range forms() {
			checkTake(t, table, s, short)
		}
	}
}

// exact are the exact sums of a spectrum with the cosines and the slope, 72 of them, by 2^44.
func exact(table *trig.Table, x []int, short bool) []*big.Int {
	sums := make([]*big.Int, 72)
	for k := range sums {
		sums[k] = new(big.Int)
	}
	if !short {
		spread(table, sums, x, 1)
		return sums
	}
	for b := range 8 {
		spread(table, sums[8*b:8*b+16], picked(x, b), 8) // a short block's cosines are told by 2^26, not by 2^29
	}
	return sums
}

// spread adds the exact block of x, by its slopes, to sums.
func spread(table *trig.Table, sums []*big.Int, x []int, scale int64) {
	w := []int64{494, 4325, 11207, 19363, 26435, 30792, 32481, 32764}
	n := len(x)
	add := func(at int, u *big.Int, factor int64) {
		sums[at].Add(sums[at], new(big.Int).Mul(u, big.NewInt(factor*scale)))
	}
	for i := range n {
		u := new(big.Int)
		for k := range n {
			cos := table.Cos(64 / n * (2*i + 1) * (2*k + 1))
			u.Add(u, new(big.Int).Mul(big.NewInt(int64(x[k])), big.NewInt(int64(cos))))
		}
		switch {
		case i < 4:
			add(4+i, u, w[4+i])
			add(3-i, u, w[3-i])
		case i >= n-4:
			j := n - 1 - i
			add(n+3-j, u, w[4+j])
			add(n+4+j, u, -w[3-j])
		default:
			add(4+i, u, 1<<15)
		}
	}
}

// checkNear holds the samples of two spectra, one behind the other, against their exact sums.
func checkNear(t *testing.T, table *trig.Table, first, second []int, shortFirst, shortSecond bool) {
	t.Helper()
	a, tail := lap.Frame(table, [8]int{}, first, shortFirst)
	b, _ := lap.Frame(table, tail, second, shortSecond)
	sums, behind := exact(table, first, shortFirst), exact(table, second, shortSecond)
	for k := range 8 {
		behind[k].Add(behind[k], sums[64+k])
	}
	sums = append(sums[:64], behind[:64]...)
	for k, got := range append(a, b...) {
		down := new(big.Int).Rsh(sums[k], 44)
		want := int(max(low, min(down.Int64(), high)))
		if num.Abs(got-want) > offExact {
			t.Fatalf("of %v, %t and %v, %t at %d %d, off by more than %d from %d", first, shortFirst, second, shortSecond, k, got, offExact, want)
		}
	}
}

// TestNear: P12.3.
func TestNear(t *testing.T) {
	table := trig.Make()
	rnd := rand.New(rand.NewSource(12))
	all := spectra()
	for _, shortFirst := range forms() {
		for _, shortSecond := range forms() {
			for i := 0; i < len(all); i += 5 {
				checkNear(t, table, all[i], all[rnd.Intn(len(all))], shortFirst, shortSecond)
			}
			for range 60 {
				for _, size := range []int{3, 500, 1 << 17, 1 << 18, 1 << 19, maxSpectrum} {
					first, second := lists.Filled(64, lists.Drawn(rnd.Intn, -size, size)), lists.Filled(64, lists.Drawn(rnd.Intn, -size, size))
					checkNear(t, table, first, second, shortFirst, shortSecond)
				}
			}
		}
	}
}

// checkComesBack takes samples frame by frame, short where the order's bit is set, and holds what comes back against them.
func checkComesBack(t *testing.T, table *trig.Table, s []int, frames, order int) {
	t.Helper()
	var tail [8]int
	for f := range frames {
		short := order>>f&1 == 1
		x := lap.Take(table, s[64*f:64*f+72], short)
		var got []int
		got, tail = lap.Frame(table, tail, x, short)
		if len(got) != 64 {
			t.Fatalf("a frame of %v, %t has %d samples", x, short, len(got))
		}
		for k, back := range got {
			if f == 0 && k < 8 {
				continue // nothing was left ahead of these
			}
			if want := s[64*f+k]; num.Abs(back-want) > offBack {
				t.Fatalf("of %v, in the order %b of %d, at %d comes back %d, off by more than %d from %d", s, order, frames, 64*f+k, back, offBack, want)
			}
		}
	}
}

// TestComesBack: P12.4, in each order of long and short frames.
func TestComesBack(t *testing.T) {
	table := trig.Make()
	for frames := 2; frames <= 5; frames++ {
		all := sounds(64*frames+8, 100)
		for order := range 1 << frames {
			for i := order % 4; i < len(all); i += 4 {
				checkComesBack(t, table, all[i], frames, order)
			}
		}
	}
}

// otherTables: one of no cosines, ones of other cosines, ones that are none at all.
func otherTables() []*trig.Table {
	rnd := rand.New(rand.NewSource(12))
	l := []*trig.Table{{}}
	for _, bound := range []int{1 << 10, 1 << 24, 1 << 30, 1 << 40, 1 << 62} {
		table := &trig.Table{}
		for k := range table {
			table[k] = rnd.Intn(2*bound-1) - bound + 1
		}
		l = append(l, table)
	}
	for _, x := range []int{least, most} {
		table := &trig.Table{}
		for k := range table {
			table[k] = x
		}
		l = append(l, table)
	}
	return l
}

// TestTableGiven: P12.1 and P12.2, it is the given table's cosines that are taken, whatever they are.
func TestTableGiven(t *testing.T) {
	rnd := rand.New(rand.NewSource(12))
	for _, table := range otherTables() {
		kept := *table
		for range 20 {
			for _, short := range forms() {
				x, tail := lists.Filled(64, lists.Drawn(rnd.Intn, -maxSpectrum, maxSpectrum)), eight(lists.Drawn(rnd.Intn, -maxTail, maxTail))
				checkFrame(t, table, tail, x, short)
				checkTake(t, table, lists.Filled(72, lists.Drawn(rnd.Intn, low, high)), short)
			}
		}
		if *table != kept {
			t.Fatal("a table changed when it was asked")
		}
	}
}

// TestNoTable: P12.1 and P12.2, of a nil table.
func TestNoTable(t *testing.T) {
	for _, x := range []int{0, 1, high, most} {
		checkNoFrame(t, nil, [8]int{}, lists.Filled(64, lists.Same(x)))
		checkNoFrame(t, nil, eight(lists.Same(x)), lists.Filled(64, lists.Same(1)))
		checkNoTake(t, nil, lists.Filled(72, lists.Same(x)))
	}
	checkNoFrame(t, nil, [8]int{}, nil)
	checkNoTake(t, nil, nil)
}

// TestNoCount: P12.1 and P12.2, of a nil list, and of every count up to 300 that a call does not take.
func TestNoCount(t *testing.T) {
	table := trig.Make()
	checkNoFrame(t, table, [8]int{}, nil)
	checkNoFrame(t, table, eight(lists.Same(1000)), nil)
	checkNoTake(t, table, nil)
	checkNoPick(t, nil, 0)
	checkNoPick(t, nil, 7)
	counts := []int{512, 576, 1024, 65536}
	for n := range 301 {
		counts = append(counts, n)
	}
	for _, n := range counts {
		for _, x := range []int{0, 1, most} {
			l := lists.Filled(n, lists.Same(x))
			if n != 64 {
				checkNoFrame(t, table, [8]int{}, l)
				checkNoFrame(t, table, eight(lists.Same(1<<20)), l)
				for b := -1; b <= 8; b++ {
					checkNoPick(t, l, b)
				}
			}
			if n != 72 {
				checkNoTake(t, table, l)
			}
		}
	}
}

// TestNoNumber: P12.1 and P12.2, of one number, at each place, that lies outside its bounds; just at them there is an
// answer.
func TestNoNumber(t *testing.T) {
	table := trig.Make()
	far := []int{1 << 47, -1 << 47, 1 << 62, -1 << 62, least, least + 1, most - 1, most}
	for place := range 72 {
		for _, x := range append([]int{high + 1, low - 1, high + 2, 1 << 16, -1 << 16, 1<<32 + 1}, far...) {
			checkNoTake(t, table, lists.Filled(72, lists.Single(place, x)))
		}
		for _, x := range []int{high, low} {
			checkTake(t, table, lists.Filled(72, lists.Single(place, x)), place%2 == 0)
		}
	}
	for place := range 64 {
		for _, x := range append([]int{maxSpectrum + 1, -maxSpectrum - 1, 2 * maxSpectrum, 1<<32 + 1}, far...) {
			checkNoFrame(t, table, [8]int{}, lists.Filled(64, lists.Single(place, x)))
		}
	}
	for place := range 8 {
		for _, x := range append([]int{maxTail + 1, -maxTail - 1, 2 * maxTail}, far...) {
			checkNoFrame(t, table, eight(lists.Single(place, x)), make([]int, 64))
			checkNoFrame(t, table, eight(lists.Single(place, x)), lists.Filled(64, lists.Single(63-place, x)))
		}
	}
}

// TestNoPick: P12.1, of blocks that there are not.
func TestNoPick(t *testing.T) {
	x := lists.Filled(64, func(i int) int { return i + 1 })
	for _, b := range []int{-1, 8, 9, -8, 64, 1 << 32, -1 << 32, 1 << 62, 1 << 61, least, least + 1, most - 1, most} {
		checkNoPick(t, x, b)
	}
}

// TestNoLay: P12.1, of other lists than eight, and of one, at each place, that has not eight numbers.
func TestNoLay(t *testing.T) {
	checkNoLay(t, nil)
	for n := range 100 {
		if n != 8 {
			checkNoLay(t, eights(n))
		}
	}
	for b := range 8 {
		for n := range 100 {
			if n == 8 {
				continue
			}
			l := eights(8)
			l[b] = make([]int, n)
			checkNoLay(t, l)
		}
		l := eights(8)
		l[b] = nil
		checkNoLay(t, l)
		l[(b+1)%8] = make([]int, 16) // as many numbers in all
		checkNoLay(t, l)
	}
	checkNoLay(t, make([][]int, 8))
	checkNoLay(t, [][]int{make([]int, 64)})
}

// checkNew: what a call answers of l is new each time, and l stays as it was.
func checkNew(t *testing.T, name string, l []int, do func() []int) {
	t.Helper()
	kept := slices.Clone(l)
	first, second := do(), do()
	want := slices.Clone(second)
	for k := range first {
		first[k] = most
	}
	if !slices.Equal(second, want) {
		t.Fatalf("one answer of %s changed with another", name)
	}
	if !slices.Equal(l, kept) {
		t.Fatalf("what %s was given changed: %v, want %v", name, l, kept)
	}
	for k := range l {
		l[k] = least
	}
	if !slices.Equal(second, want) {
		t.Fatalf("an answer of %s changed with what it was given", name)
	}
}

// TestGivenStays: rules 0.5 and 7, what is given stays as it was, where there is no answer too, and each answer is new.
func TestGivenStays(t *testing.T) {
	table := trig.Make()
	rnd := rand.New(rand.NewSource(12))
	for _, n := range []int{8, 63, 64, 71, 72} {
		for _, last := range []int{1, most} {
			for _, short := range forms() {
				l := lists.Filled(n, lists.Drawn(rnd.Intn, low, high))
				l[n-1] = last
				tail := eight(lists.Drawn(rnd.Intn, -maxTail, maxTail))
				x := slices.Clone(l)
				checkNew(t, "Frame", x, func() []int { s, _ := lap.Frame(table, tail, x, short); return s })
				s := slices.Clone(l)
				checkNew(t, "Take", s, func() []int { return lap.Take(table, s, short) })
			}
			x := lists.Filled(n, lists.Drawn(rnd.Intn, low, high))
			checkNew(t, "Pick", x, func() []int { return lap.Pick(x, n%8) })
		}
	}
	if *table != *trig.Make() {
		t.Fatal("a table changed when it was asked")
	}
}

// TestLayGivenStays: rules 0.5 and 7, the same of Lay's lists, each of them, and of them together.
func TestLayGivenStays(t *testing.T) {
	for _, n := range []int{7, 8, 9} {
		for b := range n {
			l := eights(n)
			checkNew(t, "Lay", l[b], func() []int { return lap.Lay(l) })
			for c, want := range eights(n) {
				if c != b && !slices.Equal(l[c], want) {
					t.Fatalf("Lay's list %d changed: %v, want %v", c, l[c], want)
				}
			}
		}
	}
}
