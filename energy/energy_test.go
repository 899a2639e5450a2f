package energy_test

import (
	"math"
	"math/rand"
	"slices"
	"testing"

	"splicer/energy"
	"splicer/lists"
)

const (
	least = math.MinInt
	most  = math.MaxInt
	bands = 13
	loud  = 23 // the greatest number of a row
	bound = 67 // the greatest difference
)

// expected is the chapter's words: of band b of c, beside p, or alone.
func expected(intra bool, p, c []int, b int) int {
	if intra {
		if b == 0 {
			return 8
		}
		return c[b-1]
	}
	q := p[0]
	if b > 0 {
		q = c[b-1]
	}
	return int(math.Floor(float64(3*p[b]+q) / 4))
}

// differences are the chapter's words: of each band of c, less what is expected of it.
func differences(intra bool, p, c []int) []int {
	return lists.Filled(bands, func(b int) int { return c[b] - expected(intra, p, c, b) })
}

// row: 13 numbers, each told by its place.
func row(at func(int) int) []int { return lists.Filled(bands, at) }

// rows: 13 numbers from 0 to 23 each, alike, rising and falling, at the bounds, loud at one place, drawn ones.
func rows() [][]int {
	var l [][]int
	add := func(at func(int) int) { l = append(l, row(at)) }
	for x := range loud + 1 {
		add(lists.Same(x))
	}
	add(func(b int) int { return b })
	add(func(b int) int { return loud - b })
	add(func(b int) int { return b % 2 * loud })
	add(func(b int) int { return (b + 1) % 2 * loud })
	for b := range bands {
		add(lists.Single(b, 1))
		add(lists.Single(b, loud))
	}
	rnd := rand.New(rand.NewSource(14))
	for range 100 {
		add(lists.Drawn(rnd.Intn, 0, loud))
		add(lists.Either(rnd.Intn, 0, loud))
	}
	return l
}

// noRows: lists that are no row, by their count or by one of their numbers.
func noRows() [][]int {
	l := [][]int{nil, {}}
	for n := range 101 {
		if n == bands {
			continue
		}
		for _, x := range []int{0, 8, loud} {
			l = append(l, lists.Filled(n, lists.Same(x)))
		}
	}
	l = append(l, make([]int, bands-1, bands))
	for b := range bands {
		for _, x := range []int{-1, 24, -2, 25, -8, 32, 1 << 32, -1 << 32, 1<<32 + 8, 1 << 62, -1 << 62, least, least + 8, most} {
			for _, other := range []int{0, 8, loud} {
				c := row(lists.Same(other))
				c[b] = x
				l = append(l, c)
			}
		}
	}
	for _, x := range []int{-1, 24, least, most} {
		l = append(l, row(lists.Same(x)))
	}
	return l
}

func checkRight(t *testing.T, c []int, want bool) {
	t.Helper()
	if got := energy.Right(c); got != want {
		t.Fatalf("Right(%v) = %t, want %t", c, got, want)
	}
}

func checkDeltas(t *testing.T, intra bool, p, c, want []int) {
	t.Helper()
	if got := energy.Deltas(intra, p, c); !slices.Equal(got, want) {
		t.Fatalf("Deltas(%t, %v, %v) = %v, want %v", intra, p, c, got, want)
	}
}

func checkNoDeltas(t *testing.T, intra bool, p, c []int) {
	t.Helper()
	if got := energy.Deltas(intra, p, c); got != nil {
		t.Fatalf("Deltas(%t, %v, %v) = %v, want none", intra, p, c, got)
	}
}

func checkRow(t *testing.T, intra bool, p, d, want []int) {
	t.Helper()
	if got, ok := energy.Row(intra, p, d); !ok || !slices.Equal(got, want) {
		t.Fatalf("Row(%t, %v, %v) = %v, %t, want %v, true", intra, p, d, got, ok, want)
	}
}

func checkNoRow(t *testing.T, intra bool, p, d []int) {
	t.Helper()
	if got, ok := energy.Row(intra, p, d); ok || got != nil {
		t.Fatalf("Row(%t, %v, %v) = %v, %t, want none, false", intra, p, d, got, ok)
	}
}

// TestExample: the chapter's.
func TestExample(t *testing.T) {
	eights, zeros := row(lists.Same(8)), row(lists.Same(0))
	checkDeltas(t, true, nil, eights, zeros)
	checkRow(t, true, nil, zeros, eights)
}

// TestRight: P14.1, of rows, each number at each place.
func TestRight(t *testing.T) {
	for _, c := range rows() {
		checkRight(t, c, true)
	}
	for x := range loud + 1 {
		for b := range bands {
			checkRight(t, row(lists.Single(b, x)), true)
		}
	}
	checkRight(t, append(row(lists.Same(0)), -1)[:bands], true) // what lies behind a list's end is none of its numbers
}

// TestNotRight: P14.1, of lists that are no row.
func TestNotRight(t *testing.T) {
	for _, c := range noRows() {
		checkRight(t, c, false)
	}
}

// TestKnown: P14.1 and P14.2, by hand.
func TestKnown(t *testing.T) {
	for _, k := range []struct {
		intra   bool
		p, c, d []int
	}{
		{true, nil, []int{0, 23, 0, 23, 5, 6, 8, 8, 7, 0, 1, 22, 23}, []int{-8, 23, -23, 23, -18, 1, 2, 0, -1, -7, 1, 21, 1}},
		{true, nil, []int{23, 23, 23, 23, 23, 23, 0, 0, 0, 0, 0, 0, 0}, []int{15, 0, 0, 0, 0, 0, -23, 0, 0, 0, 0, 0, 0}},
		// Alike in both rows but for band 6, of which the next one hears a quarter.
		{false, row(lists.Same(10)), []int{10, 10, 10, 10, 10, 10, 14, 10, 10, 10, 10, 10, 10}, []int{0, 0, 0, 0, 0, 0, 4, -1, 0, 0, 0, 0, 0}},
		// The first three are expected to be 5 and, of 9 and of 5 quarters, 2 and 1.
		{false, []int{5, 2, 1, 23, 0, 1, 2, 3, 0, 0, 0, 0, 23}, []int{3, 2, 0, 23, 23, 0, 0, 0, 1, 2, 3, 4, 0}, []int{-2, 0, -1, 6, 18, -6, -1, -2, 1, 2, 3, 4, -18}},
		{false, row(lists.Same(0)), row(lists.Same(23)), []int{23, 18, 18, 18, 18, 18, 18, 18, 18, 18, 18, 18, 18}},
		{false, row(lists.Same(23)), row(lists.Same(0)), []int{-23, -17, -17, -17, -17, -17, -17, -17, -17, -17, -17, -17, -17}},
	} {
		checkDeltas(t, k.intra, k.p, k.c, k.d)
		checkRow(t, k.intra, k.p, k.d, k.c)
	}
}

// TestQuarters: P14.1 and P14.2, of each number of the row ahead beside each that stands before the band.
func TestQuarters(t *testing.T) {
	for b := 1; b < bands; b++ {
		for x := range loud + 1 {
			for q := range loud + 1 {
				p := row(lists.Single(b, x))
				c := row(lists.Single(b-1, q))
				c[b] = 11
				d := differences(false, p, c)
				if want := 11 - (3*x+q-(3*x+q)%4)/4; d[b] != want {
					t.Fatalf("the words tell %d of %d and %d, want %d", d[b], x, q, want)
				}
				checkDeltas(t, false, p, c, d)
				checkRow(t, false, p, d, c)
			}
		}
	}
}

// TestDeltas: P14.1 by the chapter's words, and P14.3: a row comes back.
func TestDeltas(t *testing.T) {
	all := rows()
	for _, c := range all {
		d := differences(true, nil, c)
		checkDeltas(t, true, nil, c, d)
		checkRow(t, true, nil, d, c)
		for _, p := range all {
			d := differences(false, p, c)
			checkDeltas(t, false, p, c, d)
			checkRow(t, false, p, d, c)
		}
	}
}

// TestNoDeltas: P14.1, where c is no row, and where p is none that c stands beside.
func TestNoDeltas(t *testing.T) {
	right := row(lists.Same(8))
	for _, no := range noRows() {
		checkNoDeltas(t, true, nil, no)
		checkNoDeltas(t, true, right, no)
		checkNoDeltas(t, false, right, no)
		checkNoDeltas(t, false, no, right)
		checkNoDeltas(t, false, no, no)
	}
}

// TestAlone: P14.3, who stands alone asks nothing of the row ahead.
func TestAlone(t *testing.T) {
	for _, c := range [][]int{row(lists.Same(8)), row(func(b int) int { return loud - b }), row(lists.Single(6, loud))} {
		d := differences(true, nil, c)
		for _, p := range slices.Concat(rows(), noRows()) {
			checkDeltas(t, true, p, c, d)
			checkRow(t, true, p, d, c)
		}
	}
}

// TestRowEdges: P14.2, at each band the differences that lead just to 0 and to 23, and those one beyond.
func TestRowEdges(t *testing.T) {
	ahead := []int{0, 23, 11, 12, 0, 0, 23, 23, 1, 22, 5, 6, 7}
	for _, intra := range []bool{true, false} {
		for _, at := range []int{0, 1, 8, 22, loud} {
			for b := range bands {
				for _, edge := range []struct{ x, out int }{{0, -1}, {loud, 1}} {
					c := row(lists.Same(at))
					c[b] = edge.x
					d := differences(intra, ahead, c)
					checkRow(t, intra, ahead, d, c)
					d[b] += edge.out
					checkNoRow(t, intra, ahead, d)
				}
			}
		}
	}
}

// TestRowAll: P14.2, at the first, the seventh and the last band each difference, of each number ahead.
func TestRowAll(t *testing.T) {
	for _, intra := range []bool{true, false} {
		for _, b := range []int{0, 6, bands - 1} {
			for x := range loud + 1 {
				p, c := row(lists.Same(x)), row(lists.Same(x))
				d := differences(intra, p, c)
				at := expected(intra, p, c, b)
				for d[b] = -bound; d[b] <= bound; d[b]++ {
					c := slices.Clone(c)
					c[b] = at + d[b]
					if b+1 < bands { // so that the bands behind are as they were
						d[b+1] = c[b+1] - expected(intra, p, c, b+1)
					}
					if c[b] < 0 || c[b] > loud {
						checkNoRow(t, intra, p, d)
					} else {
						checkRow(t, intra, p, d, c)
					}
				}
			}
		}
	}
}

// TestNoRow: P14.2, of lists that are no differences, and of a row ahead that is none.
func TestNoRow(t *testing.T) {
	right, zeros := row(lists.Same(8)), row(lists.Same(0))
	none := func(d []int) {
		t.Helper()
		for _, p := range [][]int{right, zeros, row(lists.Same(loud))} {
			checkNoRow(t, true, p, d)
			checkNoRow(t, false, p, d)
		}
		checkNoRow(t, true, nil, d)
	}
	none(nil)
	for n := range 101 {
		if n != bands {
			none(make([]int, n))
		}
	}
	none(make([]int, bands-1, bands))
	for b := range bands {
		for _, x := range []int{-68, 68, -69, 69, -75, 91, 1 << 32, -1 << 32, 1<<32 + 1, 1 << 62, -1 << 62, least, least + 1, most - 1, most} {
			none(row(lists.Single(b, x)))
		}
		for _, pair := range [][2]int{{68, -68}, {-68, 68}, {24, -24}, {-24, 24}, {most, least}, {least, most}, {most, -most}} {
			d := row(lists.Single(b, pair[0]))
			d[(b+1)%bands] = pair[1]
			none(d)
		}
	}
	for _, no := range noRows() {
		checkNoRow(t, false, no, zeros)
	}
}

// TestRowDrawn: P14.2, of drawn differences a row just where each number that comes of them is in one.
func TestRowDrawn(t *testing.T) {
	rnd := rand.New(rand.NewSource(14))
	told := 0
	for turn := range 30000 {
		intra, p := turn%2 == 0, row(lists.Drawn(rnd.Intn, 0, loud))
		reach := []int{1, 2, 3, bound}[turn%4]
		d := row(lists.Drawn(rnd.Intn, -reach, reach))
		c := make([]int, bands)
		for b := range d {
			c[b] = expected(intra, p, c, b) + d[b]
		}
		if slices.Min(c) < 0 || slices.Max(c) > loud {
			checkNoRow(t, intra, p, d)
		} else {
			checkRow(t, intra, p, d, c)
			told++
		}
	}
	if told < 10000 {
		t.Fatalf("only %d drawn differences make a row", told)
	}
}

// TestGivenStays: rules 0.5 and 7, what is given stays as it was, and what is told turns neither with it nor with another
// answer.
func TestGivenStays(t *testing.T) {
	for name, call := range map[string]func(intra bool, p, l []int) []int{
		"Deltas": energy.Deltas,
		"Row": func(intra bool, p, d []int) []int {
			c, _ := energy.Row(intra, p, d)
			return c
		},
	} {
		for _, intra := range []bool{true, false} {
			for _, x := range []int{1, -1, 0} {
				p, l := row(lists.Same(9)), row(lists.Single(3, x))
				keptP, keptL := slices.Clone(p), slices.Clone(l)
				first, second := call(intra, p, l), call(intra, p, l)
				want := slices.Clone(second)
				lists.Spoil(first)
				if !slices.Equal(p, keptP) || !slices.Equal(l, keptL) {
					t.Fatalf("what %s was given changed: %v, %v, want %v, %v", name, p, l, keptP, keptL)
				}
				lists.Spoil(p)
				lists.Spoil(l)
				if !slices.Equal(second, want) {
					t.Fatalf("an answer of %s changed with what it was given, or with another answer", name)
				}
			}
		}
	}
	c := row(lists.Same(8))
	if !energy.Right(c) || !slices.Equal(c, row(lists.Same(8))) {
		t.Fatalf("what Right was given changed: %v", c)
	}
}
