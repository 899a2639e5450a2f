package fft_test

import (
	"math"
	"math/big"
	"math/rand"
	"slices"
	"testing"

	"splicer/fft"
	"splicer/lists"
	"splicer/trig"
)

const (
	least = math.MinInt
	most  = math.MaxInt
	bound = 1 << 20 // the greatest part
	off   = 100     // the most that a part is off
)

// counts are how many numbers may be given.
func counts() []int { return []int{1, 2, 4, 8, 16, 32, 64} }

// every: those of l at each second place, from the given one on.
func every(l []int, from int) []int {
	var half []int
	for i := from; i < len(l); i += 2 {
		half = append(half, l[i])
	}
	return half
}

// waves are the chapter's words done step by step, from the whole down to one number.
func waves(table *trig.Table, re, im []int) ([]int, []int) {
	n := len(re)
	if n == 1 {
		return []int{re[0]}, []int{im[0]}
	}
	evenRe, evenIm := waves(table, every(re, 0), every(im, 0))
	oddRe, oddIm := waves(table, every(re, 1), every(im, 1))
	a, b := make([]int, n), make([]int, n)
	for k := range n / 2 {
		x, y := table.Turn(oddRe[k], oddIm[k], 512*k/n)
		a[k], b[k] = evenRe[k]+x, evenIm[k]+y
		a[k+n/2], b[k+n/2] = evenRe[k]-x, evenIm[k]-y
	}
	return a, b
}

// sums are all numbers, each turned by its place times k, by the table's cosines, summed without bounds and rounded once.
func sums(table *trig.Table, re, im []int) ([]int, []int) {
	n := len(re)
	a, b := make([]int, n), make([]int, n)
	rounded := func(x *big.Int) int {
		x.Add(x, big.NewInt(1<<23))
		return int(x.Rsh(x, 24).Int64())
	}
	product := func(x, y int) *big.Int { return new(big.Int).Mul(big.NewInt(int64(x)), big.NewInt(int64(y))) }
	for k := range n {
		x, y := new(big.Int), new(big.Int)
		for j := range n {
			c, s := table.Cos(512/n*j*k), table.Sin(512/n*j*k)
			x.Add(x, product(re[j], c)).Add(x, product(im[j], s))
			y.Add(y, product(im[j], c)).Sub(y, product(re[j], s))
		}
		a[k], b[k] = rounded(x), rounded(y)
	}
	return a, b
}

// trueSums are sums by the true cosines: what a double is off by here is far below one.
func trueSums(re, im []int) ([]int, []int) {
	n := len(re)
	a, b := make([]int, n), make([]int, n)
	for k := range n {
		x, y := 0.0, 0.0
		for j := range n {
			s, c := math.Sincos(2 * math.Pi * float64(j*k%n) / float64(n))
			x += float64(re[j])*c + float64(im[j])*s
			y += float64(im[j])*c - float64(re[j])*s
		}
		a[k], b[k] = int(math.Round(x)), int(math.Round(y))
	}
	return a, b
}

// signs: a bound each, that has the sign of the cosine of its place times k, parts further on: what makes a wave loudest.
func signs(table *trig.Table, n, k, parts int) func(int) int {
	return func(i int) int {
		if table.Cos(512/n*i*k+parts) < 0 {
			return -bound
		}
		return bound
	}
}

// input: numbers of two parts.
type input struct{ re, im []int }

// inputs of n numbers: plain ones, one number at each place, ones at the bounds, ones that make a wave loudest, drawn ones.
func inputs(table *trig.Table, n int) []input {
	var l []input
	add := func(re, im func(int) int) { l = append(l, input{lists.Filled(n, re), lists.Filled(n, im)}) }
	for _, x := range []int{0, 1, -1, 7, bound - 1, bound, 1 - bound, -bound} {
		for _, y := range []int{0, 1, -5, bound - 1, bound, -bound} {
			add(lists.Same(x), lists.Same(y))
		}
	}
	for place := range n {
		for _, x := range []int{1, -3, bound, -bound} {
			add(lists.Single(place, x), lists.Same(0))
			add(lists.Same(0), lists.Single(place, x))
			add(lists.Single(place, x), lists.Single(place, bound))
		}
	}
	add(func(i int) int { return i + 1 }, lists.Same(0))
	add(func(i int) int { return i }, func(i int) int { return 3 - 2*i })
	add(func(i int) int { return bound - i }, func(i int) int { return i - bound })
	for k := range n {
		for _, parts := range []int{0, 32, 64, 96, 128} {
			add(signs(table, n, k, parts), lists.Same(0))
			add(signs(table, n, k, parts), signs(table, n, k, parts-128))
			add(signs(table, n, k, parts), signs(table, n, k, parts+128))
		}
	}
	rnd := rand.New(rand.NewSource(int64(9 + n)))
	for range 100 {
		add(lists.Drawn(rnd.Intn, -3, 3), lists.Drawn(rnd.Intn, -3, 3))
		add(lists.Drawn(rnd.Intn, -1000, 1000), lists.Same(0))
		add(lists.Drawn(rnd.Intn, -32768, 32768), lists.Drawn(rnd.Intn, -32768, 32768))
		add(lists.Drawn(rnd.Intn, -bound, bound), lists.Drawn(rnd.Intn, -bound, bound))
		add(lists.Either(rnd.Intn, bound, -bound), lists.Either(rnd.Intn, bound, -bound))
	}
	return l
}

func checkWaves(t *testing.T, table *trig.Table, in input) {
	t.Helper()
	a, b := fft.Waves(table, in.re, in.im)
	if wa, wb := waves(table, in.re, in.im); !slices.Equal(a, wa) || !slices.Equal(b, wb) {
		t.Fatalf("Waves(%v, %v) = %v, %v, want %v, %v", in.re, in.im, a, b, wa, wb)
	}
}

func checkNone(t *testing.T, table *trig.Table, re, im []int) {
	t.Helper()
	if a, b := fft.Waves(table, re, im); a != nil || b != nil {
		t.Fatalf("Waves of %d, %d numbers (%v, %v) = %v, %v, want none, none", len(re), len(im), re, im, a, b)
	}
}

// checkNear: no part of a and b is off by more than 100 from wa and wb.
func checkNear(t *testing.T, in input, a, b, wa, wb []int) {
	t.Helper()
	if len(a) != len(in.re) || len(b) != len(in.re) {
		t.Fatalf("Waves of %d numbers are %d and %d", len(in.re), len(a), len(b))
	}
	for k := range a {
		if x, y := a[k]-wa[k], b[k]-wb[k]; max(x, -x, y, -y) > off {
			t.Fatalf("Waves(%v, %v) at %d = %d, %d, but the sum is %d, %d", in.re, in.im, k, a[k], b[k], wa[k], wb[k])
		}
	}
}

// TestExample: the chapter's.
func TestExample(t *testing.T) {
	a, b := fft.Waves(trig.Make(), []int{3, 5}, []int{0, 0})
	if !slices.Equal(a, []int{8, -2}) || !slices.Equal(b, []int{0, 0}) {
		t.Errorf("Waves of 3, 5 = %v, %v, want 8, -2 and 0, 0", a, b)
	}
}

// TestWavesKnown: P9.1, of numbers whose waves can be told by hand.
func TestWavesKnown(t *testing.T) {
	for _, c := range []struct{ re, im, a, b []int }{
		{[]int{7}, []int{-9}, []int{7}, []int{-9}},
		{[]int{-bound}, []int{bound}, []int{-bound}, []int{bound}},
		{[]int{1, 2}, []int{10, 30}, []int{3, -1}, []int{40, -20}},
		{[]int{bound, bound}, []int{-bound, bound}, []int{2 * bound, 0}, []int{0, -2 * bound}},
		{[]int{1, 2, 3, 4}, []int{0, 0, 0, 0}, []int{10, -2, -2, -2}, []int{0, 2, 0, -2}},
		{[]int{0, 1, 0, 0}, []int{0, 0, 0, 0}, []int{1, 0, -1, 0}, []int{0, -1, 0, 1}},
		{[]int{0, 0, 0, 0}, []int{0, 1, 0, 0}, []int{0, 1, 0, -1}, []int{1, 0, -1, 0}},
		{[]int{0, 1000, 0, 0, 0, 0, 0, 0}, make([]int, 8),
			[]int{1000, 707, 0, -707, -1000, -707, 0, 707}, []int{0, -707, -1000, -707, 0, 707, 1000, 707}},
		{[]int{5, 5, 5, 5, 5, 5, 5, 5}, make([]int, 8), []int{40, 0, 0, 0, 0, 0, 0, 0}, make([]int, 8)},
	} {
		if a, b := fft.Waves(trig.Make(), c.re, c.im); !slices.Equal(a, c.a) || !slices.Equal(b, c.b) {
			t.Errorf("Waves(%v, %v) = %v, %v, want %v, %v", c.re, c.im, a, b, c.a, c.b)
		}
	}
}

// TestWavesAll: P9.1, of every count, held against the chapter's words.
func TestWavesAll(t *testing.T) {
	table := trig.Make()
	for _, n := range counts() {
		for _, in := range inputs(table, n) {
			checkWaves(t, table, in)
		}
	}
}

// TestTableGiven: P9.1, it is the given table that turns, whatever its numbers are: each O is turned, by no parts too.
func TestTableGiven(t *testing.T) {
	rnd := rand.New(rand.NewSource(9))
	tables := []*trig.Table{{}, trig.Make(), trig.Make()}
	tables[1][0] /= 2
	for k := range tables[2] {
		tables[2][k] = rnd.Intn(1<<25+1) - 1<<24
	}
	for _, table := range tables {
		kept := *table
		for _, n := range counts() {
			for range 50 {
				checkWaves(t, table, input{lists.Filled(n, lists.Drawn(rnd.Intn, -bound, bound)), lists.Filled(n, lists.Drawn(rnd.Intn, -bound, bound))})
			}
		}
		if *table != kept {
			t.Fatal("a table changed when it was asked")
		}
	}
}

// TestWildTable: rule 0.1, of tables that are no cosines at all.
func TestWildTable(t *testing.T) {
	for _, x := range []int{least, most, 1 << 62, -1 << 40} {
		table := &trig.Table{}
		for k := range table {
			table[k] = x
		}
		for _, n := range counts() {
			a, b := fft.Waves(table, lists.Filled(n, lists.Same(bound)), lists.Filled(n, lists.Same(-bound)))
			if len(a) != n || len(b) != n {
				t.Errorf("Waves of %d numbers are %d and %d", n, len(a), len(b))
			}
		}
	}
}

// TestNoTable: P9.1, of a nil table.
func TestNoTable(t *testing.T) {
	for _, n := range counts() {
		checkNone(t, nil, lists.Filled(n, lists.Same(1)), lists.Filled(n, lists.Same(0)))
	}
	checkNone(t, nil, nil, nil)
	checkNone(t, nil, []int{1, 2, 3}, []int{4})
}

// TestNoCount: P9.1, of no numbers, and of every count up to 300 that is none.
func TestNoCount(t *testing.T) {
	table := trig.Make()
	checkNone(t, table, nil, nil)
	checkNone(t, table, []int{}, []int{})
	checkNone(t, table, nil, []int{})
	for n := range 301 {
		if !slices.Contains(counts(), n) {
			checkNone(t, table, lists.Filled(n, lists.Same(1)), lists.Filled(n, lists.Same(2)))
		}
	}
	for _, n := range []int{512, 1024, 4096, 65536} {
		checkNone(t, table, make([]int, n), make([]int, n))
	}
}

// TestNotAsMany: P9.1, of lists of which one has more than the other.
func TestNotAsMany(t *testing.T) {
	table := trig.Make()
	for _, n := range counts() {
		l := lists.Filled(n, lists.Same(1))
		for _, other := range [][]int{nil, {}, l[:n-1], lists.Filled(n+1, lists.Same(1)), lists.Filled(2*n, lists.Same(1)), l[:n/2]} {
			checkNone(t, table, l, other)
			checkNone(t, table, other, l)
		}
	}
}

// TestNoPart: P9.1, of one number of either part, at each place, that lies outside its bounds.
func TestNoPart(t *testing.T) {
	table := trig.Make()
	bad := []int{bound + 1, -bound - 1, bound + 2, 1 << 21, -1 << 21, 1 << 32, 1<<32 + 1, -1 << 32, 1 << 62, least, least + 1, most - 1, most}
	for _, n := range counts() {
		for place := range n {
			for _, x := range bad {
				checkNone(t, table, lists.Filled(n, lists.Single(place, x)), lists.Filled(n, lists.Same(0)))
				checkNone(t, table, lists.Filled(n, lists.Same(0)), lists.Filled(n, lists.Single(place, x)))
				checkNone(t, table, lists.Filled(n, lists.Single(place, x)), lists.Filled(n, lists.Single(n-1-place, x)))
			}
		}
	}
}

// TestGivenStays: rules 0.5 and 7, what is given stays as it was, and what is told is new memory, of one list given twice too.
func TestGivenStays(t *testing.T) {
	table := trig.Make()
	rnd := rand.New(rand.NewSource(9))
	for _, n := range counts() {
		re, im := lists.Filled(n, lists.Drawn(rnd.Intn, -bound, bound)), lists.Filled(n, lists.Drawn(rnd.Intn, -bound, bound))
		keptRe, keptIm := slices.Clone(re), slices.Clone(im)
		a, b := fft.Waves(table, re, im)
		c, d := fft.Waves(table, re, re)
		checkWaves(t, table, input{re, re})
		kept := [][]int{slices.Clone(b), slices.Clone(c), slices.Clone(d)}
		for k := range a {
			a[k] = most
		}
		if !slices.Equal(b, kept[0]) || !slices.Equal(c, kept[1]) || !slices.Equal(d, kept[2]) {
			t.Fatalf("waves of %d numbers changed with others", n)
		}
		for k := range c {
			b[k], c[k] = most, most
		}
		if !slices.Equal(d, kept[2]) {
			t.Fatalf("waves of %d numbers changed with others", n)
		}
		for k := range d {
			d[k] = most
		}
		if !slices.Equal(re, keptRe) || !slices.Equal(im, keptIm) || *table != *trig.Make() {
			t.Fatalf("what was given changed: %d numbers", n)
		}
	}
}

// TestGivenStaysBad: rule 0.5, what is given stays as it was where there are no waves, too.
func TestGivenStaysBad(t *testing.T) {
	re, im := []int{1, 2, 3, bound + 1}, []int{5, 6, 7, 8}
	checkNone(t, trig.Make(), re, im)
	checkNone(t, trig.Make(), im, re)
	checkNone(t, trig.Make(), re[:3], im[:3])
	checkNone(t, nil, re, im)
	if !slices.Equal(re, []int{1, 2, 3, bound + 1}) || !slices.Equal(im, []int{5, 6, 7, 8}) {
		t.Fatalf("what was given changed to %v, %v", re, im)
	}
}

// TestNearSums: P9.2, of every count, against the sums by the table's cosines and by the true ones.
func TestNearSums(t *testing.T) {
	table := trig.Make()
	for _, n := range counts() {
		for _, in := range inputs(table, n) {
			a, b := fft.Waves(table, in.re, in.im)
			wa, wb := sums(table, in.re, in.im)
			checkNear(t, in, a, b, wa, wb)
			wa, wb = trueSums(in.re, in.im)
			checkNear(t, in, a, b, wa, wb)
		}
	}
}
