package dct_test

import (
	"math"
	"math/big"
	"math/rand"
	"slices"
	"testing"

	"splicer/dct"
	"splicer/fft"
	"splicer/lists"
	"splicer/num"
	"splicer/trig"
)

const (
	least    = math.MinInt
	most     = math.MaxInt
	maxSum   = 1 << 25 // the greatest number of Four and Back
	maxFast  = 1 << 18 // the greatest of Fast
	maxBlock = 1 << 17 // the greatest of a block that comes back
	offFast  = 64      // the most that a number of Fast is off
	offBack  = 8       // the most that a number which comes back is off
)

// call: one of the three, and its bound.
type call struct {
	name  string
	do    func(*trig.Table, []int) []int
	bound int
}

func calls() []call {
	return []call{{"Four", dct.Four, maxSum}, {"Back", dct.Back, maxSum}, {"Fast", dct.Fast, maxFast}}
}

// counts are how many numbers a block has.
func counts() []int { return []int{8, 64} }

// angle: the chapter's, of places i and k among n.
func angle(n, i, k int) int { return 64 / n * (2*i + 1) * (2*k + 1) }

// backBits: by how much Back shifts.
func backBits(n int) int {
	if n == 64 {
		return 29
	}
	return 26
}

// shifted: num.Shr's words, of a sum that cannot run over.
func shifted(sum *big.Int, bits int) int {
	half := new(big.Int).Lsh(big.NewInt(1), uint(bits-1))
	return int(half.Add(half, sum).Rsh(half, uint(bits)).Int64())
}

// sums are the chapter's words: at k the sum of all numbers, each times its angle's cosine, shifted.
func sums(table *trig.Table, l []int, bits int) []int {
	out := make([]int, len(l))
	for k := range out {
		sum := new(big.Int)
		for i, x := range l {
			sum.Add(sum, new(big.Int).Mul(big.NewInt(int64(x)), big.NewInt(int64(table.Cos(angle(len(l), i, k))))))
		}
		out[k] = shifted(sum, bits)
	}
	return out
}

// fast is the chapter's words done step by step.
func fast(table *trig.Table, u []int) []int {
	n := len(u)
	a := 64 / n
	var re, im []int
	for i := range n / 2 {
		x, y := table.Turn(u[2*i], u[n-1-2*i], a*(4*i+1))
		re, im = append(re, x), append(im, y)
	}
	re, im = fft.Waves(table, re, im)
	if re == nil {
		return nil
	}
	out := make([]int, n)
	for k := range n / 2 {
		x, y := table.Turn(re[k], im[k], 4*a*k)
		out[2*k] = x
		out[n-1-2*k] = -y
	}
	return out
}

// signs: x each, with the sign of its angle's cosine: what makes the sum at k greatest, and its opposite least.
func signs(table *trig.Table, n, k, x int) func(int) int {
	return func(i int) int {
		if table.Cos(angle(n, i, k)) < 0 {
			return -x
		}
		return x
	}
}

// inputs of n numbers from -bound to bound: small ones, one number at each place, ones at the bounds, ones that make a sum
// greatest and least, drawn ones.
func inputs(table *trig.Table, n, bound int) [][]int {
	var l [][]int
	add := func(at func(int) int) { l = append(l, lists.Filled(n, at)) }
	for _, x := range []int{0, 1, -1, 2, 7, -13, bound - 1, bound, 1 - bound, -bound} {
		add(lists.Same(x))
	}
	add(func(i int) int { return i + 1 })
	add(func(i int) int { return 3 - 2*i })
	add(func(i int) int { return bound - i })
	add(func(i int) int { return i - bound })
	add(func(i int) int { return bound - 2*bound*(i%2) })
	for place := range n {
		for _, x := range []int{1, -3, 1000, bound - 1, bound, -bound} {
			add(lists.Single(place, x))
		}
	}
	for k := range n {
		for _, x := range []int{1, bound - 1, bound, -bound} {
			add(signs(table, n, k, x))
		}
	}
	rnd := rand.New(rand.NewSource(int64(10 + n)))
	for range 100 {
		add(lists.Drawn(rnd.Intn, -1, 1))
		add(lists.Drawn(rnd.Intn, -9, 9))
		add(lists.Drawn(rnd.Intn, -1000, 1000))
		add(lists.Drawn(rnd.Intn, -32768, 32768))
		add(lists.Drawn(rnd.Intn, -bound, bound))
		add(lists.Either(rnd.Intn, bound, -bound))
	}
	return l
}

func checkSame(t *testing.T, name string, given, got, want []int) {
	t.Helper()
	if !slices.Equal(got, want) {
		t.Fatalf("%s(%v) = %v, want %v", name, given, got, want)
	}
}

func checkNone(t *testing.T, c call, table *trig.Table, l []int) {
	t.Helper()
	if got := c.do(table, l); got != nil {
		t.Fatalf("%s of %d numbers (%v) = %v, want none", c.name, len(l), l, got)
	}
}

// checkNear: got has as many numbers as want, each off by so much at most.
func checkNear(t *testing.T, name string, given, got, want []int, off int) {
	t.Helper()
	if len(got) != len(want) {
		t.Fatalf("%s(%v) has %d numbers, want %d", name, given, len(got), len(want))
	}
	for k := range got {
		if num.Abs(got[k]-want[k]) > off {
			t.Fatalf("%s(%v) at %d = %d, off by more than %d from %d", name, given, k, got[k], off, want[k])
		}
	}
}

// TestExample: the chapter's.
func TestExample(t *testing.T) {
	checkSame(t, "Four", make([]int, 8), dct.Four(trig.Make(), make([]int, 8)), make([]int, 8))
}

// TestZero: P10.1 and P10.2, of numbers 0.
func TestZero(t *testing.T) {
	for _, c := range calls() {
		for _, n := range counts() {
			checkSame(t, c.name, make([]int, n), c.do(trig.Make(), make([]int, n)), make([]int, n))
		}
	}
}

// TestKnown: P10.1 and P10.2, of numbers whose sums can be told from the chapter's table of cosines by hand.
func TestKnown(t *testing.T) {
	table := trig.Make()
	first := lists.Filled(8, lists.Single(0, 1<<12))
	// 4096 times the cosines of 8, 24, 40 and so on to 120 parts.
	checkSame(t, "Four", first, dct.Four(table, first), []int{4076, 3920, 3612, 3166, 2598, 1931, 1189, 401})
	checkSame(t, "Back", first, dct.Back(table, first), []int{1019, 980, 903, 792, 650, 483, 297, 100})
	last := lists.Filled(8, lists.Single(7, 1<<12)) // of 120, 360, 600 and so on: signs that come by turns
	checkSame(t, "Four", last, dct.Four(table, last), []int{401, -1189, 1931, -2598, 3166, -3612, 3920, -4076})
	checkSame(t, "Fast", first, dct.Fast(table, first), fast(table, first))
	wide := lists.Filled(64, lists.Single(0, 1<<24)) // the cosines of odd parts up to 127
	got, back := dct.Four(table, wide), dct.Back(table, wide)
	for k, want := range map[int]int{0: 16775953, 1: 16765847, 2: 16745643, 31: 12007971, 32: 11716809, 62: 617523, 63: 205882} {
		if got[k] != want || back[k] != num.Shr(want, 5) {
			t.Errorf("at %d Four told %d, Back %d, of the cosine %d", k, got[k], back[k], want)
		}
	}
}

// TestHalves: P10.1, sums that lie just at a half are rounded upwards.
func TestHalves(t *testing.T) {
	table := &trig.Table{}
	for k := range table {
		table[k] = 1 << 23
	}
	for _, n := range counts() {
		for x, want := range map[int]int{1: 1, -1: 0, 3: 2, -3: -1} {
			l := lists.Filled(n, lists.Single(n/2, x))
			checkSame(t, "Four", l, dct.Four(table, l), lists.Filled(n, lists.Same(want)))
			l = lists.Filled(n, lists.Single(n/2, x*n/2))
			checkSame(t, "Back", l, dct.Back(table, l), lists.Filled(n, lists.Same(want)))
		}
	}
}

// TestFourAll: P10.1, held against the chapter's words.
func TestFourAll(t *testing.T) {
	table := trig.Make()
	for _, n := range counts() {
		for _, u := range inputs(table, n, maxSum) {
			checkSame(t, "Four", u, dct.Four(table, u), sums(table, u, 24))
		}
	}
}

// TestBackAll: P10.1, held against the chapter's words.
func TestBackAll(t *testing.T) {
	table := trig.Make()
	for _, n := range counts() {
		for _, x := range inputs(table, n, maxSum) {
			checkSame(t, "Back", x, dct.Back(table, x), sums(table, x, backBits(n)))
		}
	}
}

// TestFastAll: P10.2, held against the chapter's words.
func TestFastAll(t *testing.T) {
	table := trig.Make()
	for _, n := range counts() {
		for _, u := range inputs(table, n, maxFast) {
			checkSame(t, "Fast", u, dct.Fast(table, u), fast(table, u))
		}
	}
}

// TestFastNear: P10.3.
func TestFastNear(t *testing.T) {
	table := trig.Make()
	for _, n := range counts() {
		for _, u := range inputs(table, n, maxFast) {
			checkNear(t, "Fast", u, dct.Fast(table, u), dct.Four(table, u), offFast)
			checkNear(t, "Fast", u, dct.Fast(table, u), sums(table, u, 24), offFast)
		}
	}
}

// TestComesBack: P10.4.
func TestComesBack(t *testing.T) {
	table := trig.Make()
	for _, n := range counts() {
		for _, u := range inputs(table, n, maxBlock) {
			checkNear(t, "Back of Four", u, dct.Back(table, dct.Four(table, u)), u, offBack)
		}
	}
}

// TestTableGiven: P10.1 and P10.2, it is the given table's cosines that are taken, whatever they are.
func TestTableGiven(t *testing.T) {
	rnd := rand.New(rand.NewSource(10))
	tables := []*trig.Table{{}, trig.Make(), trig.Make()}
	tables[1][0] /= 2
	for k := range tables[2] {
		tables[2][k] = rnd.Intn(1<<25+1) - 1<<24
	}
	for _, table := range tables {
		kept := *table
		for _, n := range counts() {
			for range 20 {
				l := lists.Filled(n, lists.Drawn(rnd.Intn, -maxSum, maxSum))
				checkSame(t, "Four", l, dct.Four(table, l), sums(table, l, 24))
				checkSame(t, "Back", l, dct.Back(table, l), sums(table, l, backBits(n)))
				l = lists.Filled(n, lists.Drawn(rnd.Intn, -maxFast, maxFast))
				checkSame(t, "Fast", l, dct.Fast(table, l), fast(table, l))
			}
		}
		if *table != kept {
			t.Fatal("a table changed when it was asked")
		}
	}
}

// TestWildTable: rule 0.1, of tables that are no cosines at all: what is turned may lie beyond what there are waves of.
func TestWildTable(t *testing.T) {
	for _, x := range []int{least, most, 1 << 62, -1 << 40, 1 << 28} {
		table := &trig.Table{}
		for k := range table {
			table[k] = x
		}
		for _, c := range calls() {
			for _, n := range counts() {
				got := c.do(table, lists.Filled(n, lists.Drawn(rand.New(rand.NewSource(1)).Intn, -c.bound, c.bound)))
				if len(got) != n && (c.name != "Fast" || got != nil) {
					t.Errorf("%s of %d numbers has %d", c.name, n, len(got))
				}
			}
		}
	}
}

// TestNoTable: P10.1 and P10.2, of a nil table.
func TestNoTable(t *testing.T) {
	for _, c := range calls() {
		for _, n := range []int{0, 1, 8, 9, 64} {
			checkNone(t, c, nil, lists.Filled(n, lists.Same(1)))
		}
		checkNone(t, c, nil, nil)
		checkNone(t, c, nil, lists.Filled(8, lists.Same(most)))
	}
}

// TestNoBlock: P10.1 and P10.2, of a nil list, and of every count up to 300 that no block has.
func TestNoBlock(t *testing.T) {
	table := trig.Make()
	for _, c := range calls() {
		checkNone(t, c, table, nil)
		checkNone(t, c, table, []int{})
		for n := range 301 {
			if !slices.Contains(counts(), n) {
				checkNone(t, c, table, make([]int, n))
				checkNone(t, c, table, lists.Filled(n, lists.Same(1)))
			}
		}
		for _, n := range []int{512, 1024, 4096, 65536} {
			checkNone(t, c, table, make([]int, n))
		}
	}
}

// TestNoNumber: P10.1 and P10.2, of one number, at each place, that lies outside its bounds, and of all of them so.
func TestNoNumber(t *testing.T) {
	table := trig.Make()
	for _, c := range calls() {
		bad := []int{c.bound + 1, -c.bound - 1, c.bound + 2, 2 * c.bound, -2 * c.bound, 1 << 32, 1<<32 + 1, -1 << 32, 1 << 62, least, least + 1, most - 1, most}
		for _, n := range counts() {
			for _, x := range bad {
				for place := range n {
					checkNone(t, c, table, lists.Filled(n, lists.Single(place, x)))
				}
				checkNone(t, c, table, lists.Filled(n, lists.Same(x)))
			}
		}
	}
}

// TestAtBounds: P10.1 and P10.2, of one number at each place that is a bound: there is an answer.
func TestAtBounds(t *testing.T) {
	table := trig.Make()
	for _, c := range calls() {
		for _, n := range counts() {
			for place := range n {
				for _, x := range []int{c.bound, -c.bound} {
					if got := c.do(table, lists.Filled(n, lists.Single(place, x))); len(got) != n {
						t.Fatalf("%s of %d at %d of %d numbers has %d", c.name, x, place, n, len(got))
					}
				}
			}
		}
	}
}

// TestGivenStays: rules 0.5 and 7, what is given stays as it was, where there is no answer too, and each answer is new.
func TestGivenStays(t *testing.T) {
	table := trig.Make()
	rnd := rand.New(rand.NewSource(10))
	for _, c := range calls() {
		for _, n := range []int{7, 8, 64} {
			l := lists.Filled(n, lists.Drawn(rnd.Intn, -c.bound, c.bound))
			kept := slices.Clone(l)
			first, second := c.do(table, l), c.do(table, l)
			keptSecond := slices.Clone(second)
			for k := range first {
				first[k] = most
			}
			if !slices.Equal(second, keptSecond) {
				t.Fatalf("one answer of %s changed with another", c.name)
			}
			for k := range second {
				second[k] = least
			}
			c.do(nil, l)
			if !slices.Equal(l, kept) || *table != *trig.Make() {
				t.Fatalf("what %s was given changed: %d numbers", c.name, n)
			}
			l[n-1] = most
			kept[n-1] = most
			if checkNone(t, c, table, l); !slices.Equal(l, kept) {
				t.Fatalf("what %s was given changed to %v", c.name, l)
			}
		}
	}
}
