package side_test

import (
	"math/rand"
	"slices"
	"testing"

	"splicer/lists"
	"splicer/side"
)

const (
	long = 64      // the most numbers of a list
	edge = 1 << 25 // the farthest from 0 that each of them may be
)

// pair: two lists.
type pair struct{ x, y []int }

// half of x, to the nearest whole number, and of two that are as near the greater one.
func half(x int) int {
	h := x / 2
	if x > 2*h {
		return h + 1
	}
	return h
}

// merged are the chapter's words, of what may be.
func merged(p pair) pair {
	return pair{
		lists.Filled(len(p.x), func(i int) int { return p.x[i] + p.y[i] }),
		lists.Filled(len(p.x), func(i int) int { return p.x[i] - p.y[i] }),
	}
}

// parted are the chapter's words, of what may be.
func parted(p pair) pair {
	return pair{
		lists.Filled(len(p.x), func(i int) int { return half(p.x[i] + p.y[i]) }),
		lists.Filled(len(p.x), func(i int) int { return half(p.x[i] - p.y[i]) }),
	}
}

// total: how far both lists' numbers are from 0 together.
func total(p pair) int {
	s := 0
	for _, v := range slices.Concat(p.x, p.y) {
		s += max(v, -v)
	}
	return s
}

// better are the chapter's words, of what may be.
func better(p pair) bool { return 4*total(parted(p)) < 3*total(p) }

// small: all lists of one and of two numbers from -4 to 4.
func small() []pair {
	var l []pair
	for n := 1; n <= 2; n++ {
		for _, x := range lists.All(2*n, -4, 4) {
			l = append(l, pair{x[:n:n], x[n:]})
		}
	}
	return l
}

// many: drawn lists of each count of numbers, near to 0, as far from it as they may be, and between. Of some the one list
// is 0, nearly as the other one, or as far from 0 on the other side.
func many() []pair {
	rnd := rand.New(rand.NewSource(19))
	var l []pair
	for n := range long + 1 {
		for size := 1; size <= edge; size *= 2 {
			x := lists.Filled(n, lists.Drawn(rnd.Intn, -size, size))
			less := lists.Filled(n, func(i int) int { return x[i] / 3 })
			near := lists.Filled(n, func(i int) int { return x[i] + rnd.Intn(2) - max(0, min(x[i], 1)) })
			back := lists.Filled(n, func(i int) int { return -x[i] })
			ends := lists.Filled(n, lists.Either(rnd.Intn, size, -size))
			l = append(l,
				pair{x, lists.Filled(n, lists.Drawn(rnd.Intn, -size, size))},
				pair{ends, lists.Filled(n, lists.Either(rnd.Intn, size, 1-size))},
				pair{x, less}, pair{less, x}, pair{x, near}, pair{x, back}, pair{make([]int, n), x}, pair{ends, ends})
		}
	}
	return l
}

// pairs: all small lists, and many drawn ones.
func pairs() []pair { return append(small(), many()...) }

func same(a, b pair) bool { return slices.Equal(a.x, b.x) && slices.Equal(a.y, b.y) }

func clone(p pair) pair { return pair{slices.Clone(p.x), slices.Clone(p.y)} }

func merge(p pair) pair {
	l, r := side.Merge(p.x, p.y)
	return pair{l, r}
}

func split(p pair) pair {
	m, s := side.Split(p.x, p.y)
	return pair{m, s}
}

func checkMerge(t *testing.T, p, want pair) {
	t.Helper()
	if got := merge(p); !same(got, want) {
		t.Fatalf("Merge(%v, %v) = %v, %v, want %v, %v", p.x, p.y, got.x, got.y, want.x, want.y)
	}
}

func checkSplit(t *testing.T, p, want pair) {
	t.Helper()
	if got := split(p); !same(got, want) {
		t.Fatalf("Split(%v, %v) = %v, %v, want %v, %v", p.x, p.y, got.x, got.y, want.x, want.y)
	}
}

func checkBetter(t *testing.T, p pair, want bool) {
	t.Helper()
	if got := side.Better(p.x, p.y); got != want {
		t.Fatalf("Better(%v, %v) = %t, want %t", p.x, p.y, got, want)
	}
}

// checkAlike: whichever of two lists comes first.
func checkAlike(t *testing.T, p pair, want bool) {
	t.Helper()
	checkBetter(t, p, want)
	checkBetter(t, pair{p.y, p.x}, want)
}

// checkNone: no call takes the lists, whichever of them comes first.
func checkNone(t *testing.T, x, y []int) {
	t.Helper()
	for _, p := range []pair{{x, y}, {y, x}} {
		checkMerge(t, p, pair{})
		checkSplit(t, p, pair{})
		checkBetter(t, p, false)
	}
}

// one: lists of one number each.
func one(x, y int) pair { return pair{[]int{x}, []int{y}} }

// alike: lists of n numbers each, all x and all y.
func alike(n, x, y int) pair {
	return pair{lists.Filled(n, lists.Same(x)), lists.Filled(n, lists.Same(y))}
}

// TestExamples: the chapter's, and those of its stage.
func TestExamples(t *testing.T) {
	checkMerge(t, one(5, 2), one(7, 3))
	checkSplit(t, one(7, 3), one(5, 2))
	checkBetter(t, one(8, 8), true)
	checkBetter(t, one(8, 0), false)
}

// TestByHand: P19.1, worked out by hand: halves go upwards, above 0 and below.
func TestByHand(t *testing.T) {
	checkMerge(t, one(0, 0), one(0, 0))
	checkMerge(t, one(-5, 2), one(-3, -7))
	checkMerge(t, pair{[]int{1, -2, 3}, []int{10, 20, -30}}, pair{[]int{11, 18, -27}, []int{-9, -22, 33}})
	checkSplit(t, one(0, 0), one(0, 0))
	checkSplit(t, one(1, 0), one(1, 1))     // a half, a half
	checkSplit(t, one(0, 1), one(1, 0))     // a half, less a half
	checkSplit(t, one(-1, 0), one(0, 0))    // less a half, less a half
	checkSplit(t, one(0, -1), one(0, 1))    // less a half, a half
	checkSplit(t, one(4, 3), one(4, 1))     // three and a half, a half
	checkSplit(t, one(-4, -3), one(-3, 0))  // less three and a half, less a half
	checkSplit(t, one(-3, 6), one(2, -4))   // one and a half, less four and a half
	checkSplit(t, one(3, -6), one(-1, 5))   // less one and a half, four and a half
	checkSplit(t, one(-7, -3), one(-5, -2)) // no halves
	checkSplit(t, pair{[]int{11, 18, -27}, []int{-9, -22, 33}}, pair{[]int{1, -2, 3}, []int{10, 20, -30}})
	hidden := pair{[]int{1, 2, edge + 1}[:2], []int{3, 4, -edge - 1}[:2]} // what lies behind a list's end is none of its numbers
	checkMerge(t, hidden, pair{[]int{4, 6}, []int{-2, -2}})
	checkSplit(t, hidden, pair{[]int{2, 3}, []int{-1, -1}})
	checkBetter(t, hidden, true) // 28 and 30
}

// TestBetterByHand: P19.1, four times the one is just less than, as much as, and just more than three times the other.
func TestBetterByHand(t *testing.T) {
	checkBetter(t, one(4, 3), true)    // 5 and 7: 20 and 21
	checkBetter(t, one(6, 3), false)   // 7 and 9: 28 and 27
	checkBetter(t, one(3, 1), false)   // 3 and 4: 12 and 12
	checkBetter(t, one(-6, -1), true)  // 5 and 7: 20 and 21
	checkBetter(t, one(-8, -1), false) // 7 and 9: 28 and 27
	checkBetter(t, one(2, 1), false)   // 3 and 3: 12 and 9
	checkBetter(t, one(-2, -1), true)  // 1 and 3: 4 and 9
	checkBetter(t, one(1, -1), true)   // as far on both sides
	checkBetter(t, pair{[]int{3, 8}, []int{1, 8}}, true)
	checkBetter(t, pair{[]int{3, 8}, []int{1, 0}}, false)
	checkBetter(t, pair{[]int{9, 6, 0}, []int{3, 6, 6}}, true)   // 21 and 30: 84 and 90
	checkBetter(t, pair{[]int{9, 6, 0}, []int{-3, 0, 6}}, false) // 27 and 24: 108 and 72
	for _, p := range []pair{one(3, 1), one(-3, 1), one(3, -1), one(-3, -1), {[]int{3, 1, 0}, []int{1, -3, 0}}} {
		checkAlike(t, p, false)
	}
	for r := 1; r < edge/3-1; r = 3*r + 1 {
		checkAlike(t, one(3*r, r), false)
		checkAlike(t, one(3*r-2, r), true)
		checkAlike(t, one(3*r+2, r), false)
		checkAlike(t, one(2-3*r, -r), true)
		checkAlike(t, one(-2-3*r, r), false)
	}
}

// TestNearlyBetter: P19.1, at each count of numbers and each place of them: as much at all places but one, at which it is
// just less, or just more.
func TestNearlyBetter(t *testing.T) {
	for n := 1; n <= long; n++ {
		for _, r := range []int{3, 1000, edge/3 - 1} {
			p := alike(n, 3*r, -r)
			checkAlike(t, p, false)
			for place := range n {
				for _, change := range []int{-2, 2} {
					p.x[place] = 3*r + change
					checkAlike(t, p, change < 0)
					p.x[place] = -3*r - change
					checkAlike(t, p, change < 0)
				}
				p.x[place] = 3 * r
			}
		}
	}
}

// TestAll: P19.1, of all lists of one and two small numbers, and of many drawn ones.
func TestAll(t *testing.T) {
	for _, p := range pairs() {
		checkMerge(t, p, merged(p))
		checkSplit(t, p, parted(p))
		checkBetter(t, p, better(p))
	}
}

// TestEnds: P19.1, at the bounds, of as many numbers as there may be, and of each other count: the one list as the other,
// and the one against the other.
func TestEnds(t *testing.T) {
	for n := 1; n <= long; n++ {
		for _, v := range []int{edge, -edge, edge - 1, 1 - edge} {
			checkMerge(t, alike(n, v, v), alike(n, 2*v, 0))
			checkSplit(t, alike(n, v, v), alike(n, v, 0))
			checkMerge(t, alike(n, v, -v), alike(n, 0, 2*v))
			checkSplit(t, alike(n, v, -v), alike(n, 0, v))
			checkBetter(t, alike(n, v, v), true)
			checkBetter(t, alike(n, v, -v), true)
			checkMerge(t, alike(n, v, 0), alike(n, v, v))
			checkAlike(t, alike(n, v, 0), false)
		}
		checkSplit(t, alike(n, edge, 0), alike(n, edge/2, edge/2))
		checkSplit(t, alike(n, edge, edge-1), alike(n, edge, 1))     // 2^25 less a half, a half
		checkSplit(t, alike(n, -edge, 1-edge), alike(n, 1-edge, 0))  // a half less than those, less a half
		checkSplit(t, alike(n, edge, 1-edge), alike(n, 1, edge))     // a half, 2^25 less a half
		checkSplit(t, alike(n, -edge, edge-1), alike(n, 0, 1-edge))  // less a half, and a half above -2^25
		checkSplit(t, alike(n, 1-edge, edge-1), alike(n, 0, 1-edge)) // no halves
	}
}

// TestSilent: P19.1, of numbers that are all 0 neither is better.
func TestSilent(t *testing.T) {
	for n := 1; n <= long; n++ {
		p := alike(n, 0, 0)
		checkMerge(t, p, p)
		checkSplit(t, p, p)
		checkBetter(t, p, false)
	}
}

// TestNoNumbers: P19.1, of no numbers there are none, and neither is better.
func TestNoNumbers(t *testing.T) {
	none := [][]int{nil, {}, []int{8, 8}[:0]}
	for _, x := range none {
		for _, y := range none {
			checkNone(t, x, y)
		}
	}
}

// TestNotAsMany: P19.1, of lists of which one is longer than the other.
func TestNotAsMany(t *testing.T) {
	for n := range long + 3 {
		for m := range n {
			for _, v := range []int{0, 8, -8, edge} {
				checkNone(t, lists.Filled(n, lists.Same(v)), lists.Filled(m, lists.Same(v)))
			}
			checkNone(t, lists.Filled(n, lists.Same(8))[:m], lists.Filled(n, lists.Same(8)))
		}
		checkNone(t, nil, lists.Filled(n, lists.Same(8)))
	}
}

// TestTooMany: P19.1, of more numbers than there may be.
func TestTooMany(t *testing.T) {
	for _, n := range []int{long + 1, long + 2, 2 * long, 256, 256 + long, 1 << 16} {
		for _, v := range []int{0, 1, 8, -8, edge, -edge} {
			p := alike(n, v, v)
			checkNone(t, p.x, p.y)
		}
	}
}

// TestNoNumber: P19.1, of a number that lies beyond the bounds at any place of the first or of the second list, or of both,
// and of such numbers alone, which may be nothing in all if they run over.
func TestNoNumber(t *testing.T) {
	for _, v := range append(lists.Beyond(), edge+1, -edge-1, edge+2, -edge-2, 2*edge, -2*edge) {
		for _, n := range []int{1, 2, 3, 8, long - 1, long} {
			p := alike(n, v, v)
			checkNone(t, p.x, p.y)
			for place := range n {
				for _, other := range []int{0, 8, -edge} {
					p := alike(n, other, other)
					p.x[place] = v
					checkNone(t, p.x, p.y)
					p.y[place] = v
					checkNone(t, p.x, p.y)
				}
			}
		}
	}
}

// TestMergedAgain: P19.2, what is split is merged again, off by 1 at most.
func TestMergedAgain(t *testing.T) {
	for _, p := range append(pairs(), alike(long, edge, -edge), alike(long, edge, edge-1), alike(long, 1-edge, -edge)) {
		got := merge(split(p))
		if len(got.x) != len(p.x) || len(got.y) != len(p.y) {
			t.Fatalf("%v, %v, split and merged, are not as many: %v, %v", p.x, p.y, got.x, got.y)
		}
		for i := range p.x {
			if off := max(got.x[i]-p.x[i], p.x[i]-got.x[i], got.y[i]-p.y[i], p.y[i]-got.y[i]); off > 1 {
				t.Fatalf("%v, %v, split and merged, are off by %d at %d: %v, %v", p.x, p.y, off, i, got.x, got.y)
			}
		}
	}
}

// TestSplitAgain: P19.2, what was merged is split again as it was; where it was merged to what lies beyond the bounds there
// is none.
func TestSplitAgain(t *testing.T) {
	within := func(v int) bool { return v >= -edge && v <= edge }
	for _, p := range append(pairs(), alike(long, edge/2, edge/2), alike(long, edge/2, -edge/2), alike(long, -edge/2, edge/2+1), alike(long, edge, 0)) {
		want, q := p, merged(p)
		if slices.ContainsFunc(slices.Concat(q.x, q.y), func(v int) bool { return !within(v) }) {
			want = pair{}
		}
		if got := split(merge(p)); !same(got, want) {
			t.Fatalf("%v, %v, merged and split, are %v, %v, want %v, %v", p.x, p.y, got.x, got.y, want.x, want.y)
		}
	}
}

// spoil writes over both lists.
func spoil(p pair) {
	lists.Spoil(p.x)
	lists.Spoil(p.y)
}

// given: lists that are taken, and some that are not.
func given() []pair {
	return []pair{
		one(7, 3), one(0, 0), one(-1, 0), one(edge, -edge), one(edge+1, 0), {[]int{1, 2, 3}, []int{4, 5, 6}}, {[]int{1, 2}, []int{1}},
		alike(long-1, 3, 0), alike(long, 0, 0), alike(long, 1, 2), alike(long+1, 1, 2), {}, {nil, []int{1}},
	}
}

// TestGivenStays: rules 0.5 and 7, what is given stays as it was, where there is no answer too, and the lists that are told
// share their numbers neither with each other, nor with what was given, nor with another answer.
func TestGivenStays(t *testing.T) {
	for name, call := range map[string]func(pair) pair{"Merge": merge, "Split": split} {
		for _, want := range given() {
			p := clone(want)
			first, second := call(p), call(p)
			kept := clone(second)
			lists.Spoil(first.x)
			if !slices.Equal(first.y, kept.y) {
				t.Fatalf("the second list that %s(%v, %v) told changed with the first one", name, want.x, want.y)
			}
			lists.Spoil(first.y)
			if !same(p, want) {
				t.Fatalf("what %s was given changed: %v, %v, want %v, %v", name, p.x, p.y, want.x, want.y)
			}
			spoil(p)
			if !same(second, kept) {
				t.Fatalf("an answer of %s(%v, %v) changed with what it was given, or with another answer", name, want.x, want.y)
			}
			lists.Spoil(second.y)
			if !slices.Equal(second.x, kept.x) {
				t.Fatalf("the first list that %s(%v, %v) told changed with the second one", name, want.x, want.y)
			}
		}
	}
}

// TestGivenBehindStays: rule 0.5, what lies behind the end of a list stays as it was, too.
func TestGivenBehindStays(t *testing.T) {
	all := pair{[]int{7, 3, 1, 2}, []int{3, 1, 4, 5}}
	p, want := pair{all.x[:2], all.y[:2]}, clone(all)
	merge(p)
	split(p)
	side.Better(p.x, p.y)
	if !same(all, want) {
		t.Fatalf("behind what was given %v, %v came to be, want %v, %v", all.x, all.y, want.x, want.y)
	}
}

// TestBetterGivenStays: rule 0.5, what Better is given stays as it was.
func TestBetterGivenStays(t *testing.T) {
	for _, want := range given() {
		p := clone(want)
		side.Better(p.x, p.y)
		if !same(p, want) {
			t.Fatalf("what Better was given changed: %v, %v, want %v, %v", p.x, p.y, want.x, want.y)
		}
	}
}

// TestOneListTwice: P19.1, a list may be given as the first and as the second one.
func TestOneListTwice(t *testing.T) {
	x := []int{5, -4, 0, edge, -edge}
	twice, none := []int{10, -8, 0, 2 * edge, -2 * edge}, make([]int, 5)
	checkMerge(t, pair{x, x}, pair{twice, none})
	checkSplit(t, pair{x, x}, pair{x, none})
	checkBetter(t, pair{x, x}, true)
	if !slices.Equal(x, []int{5, -4, 0, edge, -edge}) {
		t.Fatalf("a list that was given twice changed: %v", x)
	}
}
