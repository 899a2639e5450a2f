package alloc_test

import (
	"math"
	"math/rand"
	"slices"
	"testing"

	"splicer/alloc"
	"splicer/lists"
)

const (
	least = math.MinInt
	most  = math.MaxInt
	bands = 13
	best  = 10 // the greatest quality
	loud  = 23 // the greatest Coarse
	full  = 24 // the most pulses of a band
)

// widths are the chapter's words of a spectrum's bands: four of 2, four of 4, five of 8 numbers.
func widths() []int { return []int{2, 2, 2, 2, 4, 4, 4, 4, 8, 8, 8, 8, 8} }

// steps are the chapter's p, of what Coarse and quality are together: less 8, held within 0 to 8.
func steps(together int) int {
	if together > 16 {
		return 8
	}
	return []int{0, 0, 0, 0, 0, 0, 0, 0, 0, 1, 2, 3, 4, 5, 6, 7, 8}[together]
}

// pulses are the chapter's words, of what may be and of what may not.
func pulses(q, c, w int) int {
	if q < 0 || q > best || c <= 0 || c > loud {
		return 0
	}
	return map[int]int{2: 1, 4: 2, 8: 3}[w] * steps(c+q)
}

// row: 13 numbers, each told by its place.
func row(at func(int) int) []int { return lists.Filled(bands, at) }

// rows: 13 numbers from 0 to 23 each, alike, rising and falling, loud at one place, drawn ones.
func rows() [][]int {
	var l [][]int
	for x := range loud + 1 {
		l = append(l, row(lists.Same(x)))
	}
	l = append(l, row(func(b int) int { return b }), row(func(b int) int { return loud - b }))
	for b := range bands {
		l = append(l, row(lists.Single(b, 1)), row(lists.Single(b, loud)))
	}
	rnd := rand.New(rand.NewSource(15))
	for range 500 {
		l = append(l, row(lists.Drawn(rnd.Intn, 0, loud)), row(lists.Drawn(rnd.Intn, 0, 16)), row(lists.Either(rnd.Intn, 0, loud)))
	}
	return l
}

func checkBand(t *testing.T, q, c, w, want int) {
	t.Helper()
	if got := alloc.Band(q, c, w); got != want {
		t.Fatalf("Band(%d, %d, %d) = %d, want %d", q, c, w, got, want)
	}
}

func checkAll(t *testing.T, q int, row, want []int) {
	t.Helper()
	if got := alloc.All(q, row); !slices.Equal(got, want) {
		t.Fatalf("All(%d, %v) = %v, want %v", q, row, got, want)
	}
}

func checkNone(t *testing.T, q int, row []int) {
	t.Helper()
	if got := alloc.All(q, row); got != nil {
		t.Fatalf("All(%d, %v) = %v, want none", q, row, got)
	}
}

// TestExamples: the chapter's, and those of its stage.
func TestExamples(t *testing.T) {
	checkBand(t, 5, 8, 4, 10)
	checkBand(t, 5, 0, 4, 0)
	checkBand(t, 10, 23, 8, 24)
	checkBand(t, 11, 8, 4, 0)
	checkNone(t, 0, nil)
}

// TestByHand: P15.1, where the pulses begin and where they become no more.
func TestByHand(t *testing.T) {
	for _, k := range []struct{ q, c, two, four, eight int }{
		{0, 1, 0, 0, 0}, {0, 8, 0, 0, 0}, {0, 9, 1, 2, 3}, {0, 15, 7, 14, 21}, {0, 16, 8, 16, 24}, {0, 17, 8, 16, 24}, {0, 23, 8, 16, 24},
		{1, 7, 0, 0, 0}, {1, 8, 1, 2, 3}, {4, 9, 5, 10, 15}, {7, 1, 0, 0, 0}, {8, 0, 0, 0, 0}, {8, 1, 1, 2, 3}, {9, 0, 0, 0, 0}, {9, 1, 2, 4, 6},
		{10, 0, 0, 0, 0}, {10, 1, 3, 6, 9}, {10, 5, 7, 14, 21}, {10, 6, 8, 16, 24}, {10, 7, 8, 16, 24}, {10, 23, 8, 16, 24},
	} {
		checkBand(t, k.q, k.c, 2, k.two)
		checkBand(t, k.q, k.c, 4, k.four)
		checkBand(t, k.q, k.c, 8, k.eight)
	}
}

// TestBand: P15.1, by the chapter's words, of all that may be and of what lies beside it.
func TestBand(t *testing.T) {
	for q := -1; q <= best+1; q++ {
		for c := -1; c <= loud+1; c++ {
			for w := -1; w <= 9; w++ {
				checkBand(t, q, c, w, pulses(q, c, w))
			}
		}
	}
}

// TestNoBand: P15.1, of numbers far beyond the bounds, alone and with one another.
func TestNoBand(t *testing.T) {
	all := append(lists.Beyond(), -1, 0, 1, 2, 4, 5, 8, 10, 11, 16, loud, 24, 32, 64)
	for _, x := range lists.Beyond() {
		for _, y := range all {
			for _, z := range all {
				checkBand(t, x, y, z, 0)
				checkBand(t, y, x, z, 0)
				checkBand(t, y, z, x, 0)
			}
		}
	}
	for _, w := range []int{-8, -4, -2, 6, 10, 12, 16, 24, 32, 64} {
		for q := range best + 1 {
			for c := range loud + 1 {
				checkBand(t, q, c, w, 0)
			}
		}
	}
}

// TestAll: P15.1, against the chapter's words and against Band.
func TestAll(t *testing.T) {
	wide := widths()
	for _, r := range rows() {
		for q := range best + 1 {
			checkAll(t, q, r, row(func(b int) int { return pulses(q, r[b], wide[b]) }))
			checkAll(t, q, r, row(func(b int) int { return alloc.Band(q, r[b], wide[b]) }))
		}
	}
}

// TestAllByHand: P15.1, of rows of nothing but 0 and of nothing but 23 at every quality, and of one between.
func TestAllByHand(t *testing.T) {
	for q := range best + 1 {
		checkAll(t, q, row(lists.Same(0)), []int{0, 0, 0, 0, 0, 0, 0, 0, 0, 0, 0, 0, 0})
		checkAll(t, q, row(lists.Same(loud)), []int{8, 8, 8, 8, 16, 16, 16, 16, 24, 24, 24, 24, 24})
	}
	checkAll(t, 5, []int{0, 3, 4, 23, 0, 3, 4, 8, 0, 3, 4, 10, 11}, []int{0, 0, 1, 8, 0, 0, 2, 10, 0, 0, 3, 21, 24})
	checkAll(t, 5, append(row(lists.Same(8)), -1)[:bands], []int{5, 5, 5, 5, 10, 10, 10, 10, 15, 15, 15, 15, 15}) // what lies behind a list's end is none of its numbers
}

// TestNoQuality: P15.1, All of qualities that there are not.
func TestNoQuality(t *testing.T) {
	for _, q := range append(lists.Beyond(), -1, 11, -2, 12, -10, loud, 64) {
		for _, r := range [][]int{row(lists.Same(0)), row(lists.Same(8)), row(lists.Same(loud)), nil, {}} {
			checkNone(t, q, r)
		}
	}
}

// TestNoRow: P15.1, All of what is no row, by its count or by one of its numbers.
func TestNoRow(t *testing.T) {
	no := [][]int{nil, {}, make([]int, bands-1, bands)}
	for n := range 101 {
		if n == bands {
			continue
		}
		for _, x := range []int{0, 8, loud} {
			no = append(no, lists.Filled(n, lists.Same(x)))
		}
	}
	for b := range bands {
		for _, x := range append(lists.Beyond(), -1, 24, -2, 25, 64) {
			for _, other := range []int{0, 8, loud} {
				r := row(lists.Same(other))
				r[b] = x
				no = append(no, r)
			}
		}
	}
	for _, r := range no {
		for q := -1; q <= best+1; q++ {
			checkNone(t, q, r)
		}
	}
}

// checkNoFewer: P15.2, of two bands of one width.
func checkNoFewer(t *testing.T, w, q, c, better, louder int) {
	t.Helper()
	if n, more := alloc.Band(q, c, w), alloc.Band(better, louder, w); more < n {
		t.Fatalf("Band(%d, %d, %d) = %d, but Band(%d, %d, %d) = %d", q, c, w, n, better, louder, w, more)
	}
}

// TestNoFewer: P15.2, of every band beside all that are better, and all that are louder.
func TestNoFewer(t *testing.T) {
	for _, w := range []int{2, 4, 8} {
		for q := range best + 1 {
			for c := range loud + 1 {
				for better := q; better <= best; better++ {
					checkNoFewer(t, w, q, c, better, c)
				}
				for louder := c; louder <= loud; louder++ {
					checkNoFewer(t, w, q, c, q, louder)
				}
			}
		}
	}
}

// TestAllNoFewer: P15.2, of the bands of drawn rows, beside a better quality, and beside rows one band of which is louder.
func TestAllNoFewer(t *testing.T) {
	rnd := rand.New(rand.NewSource(15))
	for range 2000 {
		q, r := rnd.Intn(best), row(lists.Drawn(rnd.Intn, 0, loud-1))
		louder := slices.Clone(r)
		louder[rnd.Intn(bands)]++
		first := alloc.All(q, r)
		for _, more := range [][]int{alloc.All(q+1, r), alloc.All(q, louder)} {
			if len(first) != bands || len(more) != bands {
				t.Fatalf("%d and %d numbers are told of %v, want %d", len(first), len(more), r, bands)
			}
			for b := range bands {
				if more[b] < first[b] {
					t.Fatalf("at quality %d or better band %d of %v, or of %v, has %d pulses, but had %d", q, b, r, louder, more[b], first[b])
				}
			}
		}
	}
}

// TestBounds: P15.2, no band has more than 24 pulses, or fewer than none; a silent one has none at all.
func TestBounds(t *testing.T) {
	within := func(n, q, c int) {
		t.Helper()
		if n < 0 || n > full || c == 0 && n != 0 {
			t.Fatalf("%d pulses are told of a band of quality %d and Coarse %d", n, q, c)
		}
	}
	for q := range best + 1 {
		for c := range loud + 1 {
			for w := range 65 {
				within(alloc.Band(q, c, w), q, c)
			}
		}
		for _, r := range rows() {
			for b, n := range alloc.All(q, r) {
				within(n, q, r[b])
			}
		}
	}
}

// TestGivenStays: rules 0.5 and 7, what is given stays as it was, where there is no answer too, and what is told shares its
// numbers neither with it nor with another answer.
func TestGivenStays(t *testing.T) {
	for _, q := range []int{-1, 0, 5, best, best + 1} {
		for _, n := range []int{0, bands - 1, bands, bands + 1} {
			for _, x := range []int{-1, 0, 12, loud, loud + 1} {
				r := lists.Filled(n, lists.Same(x))
				kept := slices.Clone(r)
				first, second := alloc.All(q, r), alloc.All(q, r)
				want := slices.Clone(second)
				lists.Spoil(first)
				if !slices.Equal(r, kept) {
					t.Fatalf("what All was given changed: %v, want %v", r, kept)
				}
				lists.Spoil(r)
				if !slices.Equal(second, want) {
					t.Fatal("an answer of All changed with what it was given, or with another answer")
				}
			}
		}
	}
}
