package layout_test

import (
	"math"
	"math/rand"
	"slices"
	"testing"

	"splicer/layout"
	"splicer/lists"
)

const (
	least = math.MinInt
	most  = math.MaxInt
	bands = 13
	size  = 64 // how many numbers a spectrum has
)

// places are the chapter's words: of each band, one behind the other, the places that it has.
func places() [][]int {
	var l [][]int
	next := 0
	for _, kind := range []struct{ bands, width int }{{4, 2}, {4, 4}, {5, 8}} {
		for range kind.bands {
			l = append(l, lists.Filled(kind.width, func(i int) int { return next + i }))
			next += kind.width
		}
	}
	return l
}

// parts are the chapter's words of what the bands' numbers are.
func parts(x []int) [][]int {
	l := places()
	for _, band := range l {
		for i, k := range band {
			band[i] = x[k]
		}
	}
	return l
}

// spectra: 64 numbers each, all apart, alike, at the bounds of an int, at one place, drawn ones.
func spectra() [][]int {
	var l [][]int
	add := func(at func(int) int) { l = append(l, lists.Filled(size, at)) }
	add(func(i int) int { return i })
	add(func(i int) int { return 100 - 7*i })
	add(func(i int) int { return least + i })
	add(func(i int) int { return most - i })
	add(func(i int) int { return []int{least, most}[i%2] })
	for _, x := range []int{0, 1, -1, least, least + 1, most - 1, most} {
		add(lists.Same(x))
	}
	for place := range size {
		add(lists.Single(place, 1))
		add(lists.Single(place, least))
		add(lists.Single(place, most))
	}
	rnd := rand.New(rand.NewSource(13))
	for range 200 {
		add(func(int) int { return int(rnd.Uint64()) })
		add(lists.Drawn(rnd.Intn, -1000, 1000))
		add(lists.Either(rnd.Intn, least, most))
	}
	return l
}

// apart: 13 lists, as long as their bands are wide, all of whose numbers are apart.
func apart() [][]int {
	l := places()
	for b, band := range l {
		for i := range band {
			band[i] = 1000*(b+1) + i
		}
	}
	return l
}

// cloned: the lists of l, each in memory of its own.
func cloned(l [][]int) [][]int {
	c := slices.Clone(l)
	for i := range c {
		c[i] = slices.Clone(c[i])
	}
	return c
}

func sameLists(a, b [][]int) bool { return slices.EqualFunc(a, b, slices.Equal) }

func check(t *testing.T, name string, of, got, want int) {
	t.Helper()
	if got != want {
		t.Errorf("%s(%d) = %d, want %d", name, of, got, want)
	}
}

func checkCut(t *testing.T, x []int, want [][]int) {
	t.Helper()
	if got := layout.Cut(x); !sameLists(got, want) {
		t.Fatalf("Cut(%v) = %v, want %v", x, got, want)
	}
}

func checkJoin(t *testing.T, l [][]int, want []int) {
	t.Helper()
	if got := layout.Join(l); !slices.Equal(got, want) {
		t.Fatalf("Join(%v) = %v, want %v", l, got, want)
	}
}

func checkNoCut(t *testing.T, x []int) {
	t.Helper()
	if got := layout.Cut(x); got != nil {
		t.Fatalf("Cut of %d numbers = %v, want none", len(x), got)
	}
}

func checkNoJoin(t *testing.T, l [][]int) {
	t.Helper()
	if got := layout.Join(l); got != nil {
		t.Fatalf("Join of %d lists (%v) = %v, want none", len(l), l, got)
	}
}

// TestExample: the chapter's.
func TestExample(t *testing.T) {
	check(t, "Width", 4, layout.Width(4), 4)
	check(t, "Start", 8, layout.Start(8), 24)
	check(t, "Of", 63, layout.Of(63), 12)
}

// TestWidthStart: P13.1, of every band, by the chapter's words and by hand.
func TestWidthStart(t *testing.T) {
	byHand := []struct{ start, width int }{
		{0, 2}, {2, 2}, {4, 2}, {6, 2}, {8, 4}, {12, 4}, {16, 4}, {20, 4}, {24, 8}, {32, 8}, {40, 8}, {48, 8}, {56, 8},
	}
	words := places()
	if len(words) != bands || len(byHand) != bands {
		t.Fatalf("%d bands by words, %d by hand, want %d", len(words), len(byHand), bands)
	}
	for b, band := range words {
		check(t, "Width", b, layout.Width(b), len(band))
		check(t, "Width", b, layout.Width(b), byHand[b].width)
		check(t, "Start", b, layout.Start(b), band[0])
		check(t, "Start", b, layout.Start(b), byHand[b].start)
	}
}

// TestNoBand: P13.1, of bands that there are not.
func TestNoBand(t *testing.T) {
	for _, b := range []int{-1, 13, -2, 14, -13, 24, 63, 64, 1 << 32, -1 << 32, 1<<32 + 4, 1 << 62, -1 << 62, least, least + 1, least + 8, most - 1, most} {
		check(t, "Width", b, layout.Width(b), 0)
		check(t, "Start", b, layout.Start(b), 0)
	}
}

// TestOf: P13.1, of every place.
func TestOf(t *testing.T) {
	asked := 0
	for b, band := range places() {
		for _, k := range band {
			check(t, "Of", k, layout.Of(k), b)
			asked++
		}
	}
	if asked != size {
		t.Fatalf("%d places, want %d", asked, size)
	}
}

// TestNoPlace: P13.1, of places that there are not.
func TestNoPlace(t *testing.T) {
	for _, k := range []int{-1, 64, -2, 65, -63, -64, 127, 128, 1 << 32, -1 << 32, 1<<32 + 4, 1 << 62, -1 << 62, least, least + 1, least + 8, most - 1, most} {
		check(t, "Of", k, layout.Of(k), -1)
	}
}

// TestCut: P13.2, of every band its numbers, in their order.
func TestCut(t *testing.T) {
	checkCut(t, lists.Filled(size, func(i int) int { return i + 1 }), [][]int{
		{1, 2}, {3, 4}, {5, 6}, {7, 8}, {9, 10, 11, 12}, {13, 14, 15, 16}, {17, 18, 19, 20}, {21, 22, 23, 24},
		{25, 26, 27, 28, 29, 30, 31, 32}, {33, 34, 35, 36, 37, 38, 39, 40}, {41, 42, 43, 44, 45, 46, 47, 48},
		{49, 50, 51, 52, 53, 54, 55, 56}, {57, 58, 59, 60, 61, 62, 63, 64},
	})
	for _, x := range spectra() {
		checkCut(t, x, parts(x))
	}
}

// TestNoCut: P13.2, of every count up to 300 that is none of a spectrum, and of greater ones.
func TestNoCut(t *testing.T) {
	checkNoCut(t, nil)
	counts := []int{512, 576, 1024, 65536}
	for n := range 301 {
		counts = append(counts, n)
	}
	for _, n := range counts {
		if n == size {
			continue
		}
		for _, x := range []int{0, 1, least, most} {
			checkNoCut(t, lists.Filled(n, lists.Same(x)))
		}
	}
	checkNoCut(t, make([]int, size-1, size))
}

// TestJoin: P13.2, of lists as long as their bands are wide, of what Cut told and of others.
func TestJoin(t *testing.T) {
	checkJoin(t, apart(), slices.Concat(apart()...))
	for _, x := range spectra() {
		checkJoin(t, parts(x), x)
	}
	long := apart()
	for b := range long {
		long[b] = append(long[b], -1)[:len(long[b])] // what lies behind a list's end is none of its numbers
	}
	checkJoin(t, long, slices.Concat(apart()...))
}

// TestNoJoin: P13.2, of every count of lists up to 100 that is none of the bands.
func TestNoJoin(t *testing.T) {
	checkNoJoin(t, nil)
	checkNoJoin(t, [][]int{})
	checkNoJoin(t, [][]int{make([]int, size)})
	checkNoJoin(t, make([][]int, bands))
	for n := range 101 {
		if n == bands {
			continue
		}
		l := apart()
		for len(l) < n {
			l = append(l, make([]int, 8))
		}
		checkNoJoin(t, l[:n])
		checkNoJoin(t, make([][]int, n))
	}
	checkNoJoin(t, apart()[1:])
	checkNoJoin(t, slices.Insert(apart(), 0, []int{}))
	checkNoJoin(t, append(apart(), nil))
	checkNoJoin(t, append(apart(), []int{}))
}

// TestNoJoinWidth: P13.2, of 13 lists one of which is not as long as its band is wide, and of two of which one has what the
// other one lacks.
func TestNoJoinWidth(t *testing.T) {
	for b, band := range apart() {
		for n := range 100 {
			if n == len(band) {
				continue
			}
			l := apart()
			l[b] = lists.Filled(n, lists.Same(1))
			checkNoJoin(t, l)
		}
		l := apart()
		l[b] = nil
		checkNoJoin(t, l)
		for other := range bands {
			if other == b {
				continue
			}
			l := apart()
			l[b], l[other] = l[b][1:], append(l[other], l[b][0])
			checkNoJoin(t, l)
			l = apart()
			l[b], l[other] = l[other], l[b]
			if len(l[b]) != len(l[other]) {
				checkNoJoin(t, l)
			}
		}
	}
}

// TestEachPlace: P13.3, each place is in just one band, by Start and Width alone.
func TestEachPlace(t *testing.T) {
	for k := -1; k <= size; k++ {
		var in []int
		for b := range bands {
			if from := layout.Start(b); k >= from && k < from+layout.Width(b) {
				in = append(in, b)
			}
		}
		if k == -1 || k == size {
			if len(in) != 0 {
				t.Errorf("at %d, where there is no place, are the bands %v", k, in)
			}
			continue
		}
		if len(in) != 1 || layout.Of(k) != in[0] {
			t.Errorf("the place %d is in the bands %v, by Of in %d, want just one, and the same", k, in, layout.Of(k))
		}
	}
}

// TestComesBack: P13.3, what is cut is joined again, and what is joined is cut again.
func TestComesBack(t *testing.T) {
	for _, x := range spectra() {
		checkJoin(t, layout.Cut(x), x)
	}
	checkCut(t, layout.Join(apart()), apart())
}

// TestCutGivenStays: rules 0.5 and 7, what is given stays as it was, where there is no answer too, and what is told shares
// its numbers neither with it nor with another answer.
func TestCutGivenStays(t *testing.T) {
	for _, n := range []int{0, 1, 63, 64, 65} {
		x := lists.Filled(n, func(i int) int { return i + 1 })
		kept := slices.Clone(x)
		first, second := layout.Cut(x), layout.Cut(x)
		want := cloned(second)
		for _, band := range first {
			for i := range band {
				band[i] = most
			}
		}
		if !sameLists(second, want) {
			t.Fatal("one answer of Cut changed with another")
		}
		if !slices.Equal(x, kept) {
			t.Fatalf("what Cut was given changed: %v, want %v", x, kept)
		}
		for i := range x {
			x[i] = least
		}
		if !sameLists(second, want) {
			t.Fatal("an answer of Cut changed with what it was given")
		}
	}
}

// TestCutListsApart: rule 7, no two lists of one answer share any memory, behind their ends neither.
func TestCutListsApart(t *testing.T) {
	x := lists.Filled(size, func(i int) int { return i + 1 })
	for b := range bands {
		l := layout.Cut(x)
		whole := l[b][:cap(l[b])]
		for i := range whole {
			whole[i] = most
		}
		want := parts(x)
		want[b] = lists.Filled(len(want[b]), lists.Same(most))
		if !sameLists(l, want) {
			t.Fatalf("with the numbers of band %d others changed: %v, want %v", b, l, want)
		}
	}
	if !slices.Equal(x, lists.Filled(size, func(i int) int { return i + 1 })) {
		t.Fatalf("what was given changed with what was told: %v", x)
	}
}

// TestJoinGivenStays: rules 0.5 and 7, the same of Join, of 13 lists, of one too few, and of one that is too short.
func TestJoinGivenStays(t *testing.T) {
	short := apart()
	short[12] = short[12][1:]
	for _, l := range [][][]int{apart(), apart()[:12], short} {
		kept := cloned(l)
		first, second := layout.Join(l), layout.Join(l)
		want := slices.Clone(second)
		for i := range first {
			first[i] = most
		}
		if !slices.Equal(second, want) {
			t.Fatal("one answer of Join changed with another")
		}
		if !sameLists(l, kept) {
			t.Fatalf("what Join was given changed: %v, want %v", l, kept)
		}
		for b := range l {
			for i := range l[b] {
				l[b][i] = least
			}
			l[b] = nil
		}
		if !slices.Equal(second, want) {
			t.Fatal("an answer of Join changed with what it was given")
		}
	}
}
