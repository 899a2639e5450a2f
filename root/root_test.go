package root_test

import (
	"math"
	"math/big"
	"math/rand"
	"testing"

	"splicer/root"
)

const (
	least  = math.MinInt
	most   = math.MaxInt
	maxNum = 1 << 60 // the greatest number that has a root
)

// want are the answers of a number.
type want struct{ n, sqrt, near int }

func (w want) check(t *testing.T) {
	t.Helper()
	if got := root.Sqrt(w.n); got != w.sqrt {
		t.Fatalf("Sqrt(%d) = %d, want %d", w.n, got, w.sqrt)
	}
	if got := root.Near(w.n); got != w.near {
		t.Fatalf("Near(%d) = %d, want %d", w.n, got, w.near)
	}
}

func wide(x int) *big.Int { return big.NewInt(int64(x)) }

func square(x int) *big.Int { return new(big.Int).Mul(wide(x), wide(x)) }

// off is how far r's square is from n.
func off(n, r int) *big.Int {
	d := new(big.Int).Sub(square(r), wide(n))
	return d.Abs(d)
}

// worked: the answers of a number that has a root, worked out without bounds; of the roots about it the first one that
// no other beats is the nearest.
func worked(n int) want {
	sqrt := int(new(big.Int).Sqrt(wide(n)).Int64())
	near := max(0, sqrt-1)
	for r := near + 1; r <= sqrt+2; r++ {
		if off(n, r).Cmp(off(n, near)) < 0 {
			near = r
		}
	}
	return want{n, sqrt, near}
}

// some are numbers that have a root: all small ones, those about each power of two and about its square, and others of
// every size, in no order.
func some() []int {
	var l []int
	add := func(about int) {
		for d := -3; d <= 3; d++ {
			if n := about + d; n >= 0 && n <= maxNum {
				l = append(l, n)
			}
		}
	}
	for n := range 5000 {
		l = append(l, n)
	}
	for k := range 61 {
		add(1 << k)
		add(3 << k >> 1)
	}
	rnd := rand.New(rand.NewSource(6))
	for range 20000 {
		n := rnd.Intn(maxNum+1) >> rnd.Intn(60)
		l = append(l, n)
		r := rnd.Intn(1<<30) >> rnd.Intn(30)
		add(r * r)
		add(r*r + r)
	}
	return l
}

// TestExamples: the chapter's.
func TestExamples(t *testing.T) {
	for _, c := range []struct {
		call      string
		got, want int
	}{
		{"Sqrt(24)", root.Sqrt(24), 4},
		{"Log(9)", root.Log(9), 3},
		{"Near(21)", root.Near(21), 5},
	} {
		if c.got != c.want {
			t.Errorf("%s = %d, want %d", c.call, c.got, c.want)
		}
	}
}

// TestRootsKnown: P6.1, of small numbers and of those at the upper bound.
func TestRootsKnown(t *testing.T) {
	const r = 1<<30 - 1
	for _, w := range []want{
		{0, 0, 0}, {1, 1, 1}, {2, 1, 1}, {3, 1, 2}, {4, 2, 2}, {5, 2, 2}, {6, 2, 2}, {7, 2, 3}, {8, 2, 3}, {9, 3, 3},
		{12, 3, 3}, {13, 3, 4}, {20, 4, 4}, {21, 4, 5}, {24, 4, 5}, {25, 5, 5},
		{r*r - 1, r - 1, r}, {r * r, r, r}, {r*r + 1, r, r},
		{r*r + r, r, r}, {r*r + r + 1, r, r + 1},
		{maxNum - 1, r, r + 1}, {maxNum, r + 1, r + 1},
	} {
		w.check(t)
	}
}

// TestSquares: P6.1, of the squares of all roots up to 10^6 and of the numbers beside them.
func TestSquares(t *testing.T) {
	for r := 2; r <= 1000000; r++ {
		want{r*r - 1, r - 1, r}.check(t)
		want{r * r, r, r}.check(t)
		want{r*r + 1, r, r}.check(t)
	}
}

// TestHalfway: P6.1, of the two numbers between two squares that lie nearest to the half.
func TestHalfway(t *testing.T) {
	about := func(r int) {
		t.Helper()
		want{r*r + r, r, r}.check(t)
		want{r*r + r + 1, r, r + 1}.check(t)
	}
	for r := 1; r <= 100000; r++ {
		about(r)
	}
	for k := 1; k <= 30; k++ {
		about(1<<k - 1)
		if k < 30 {
			about(1 << k)
			about(1<<k + 1)
		}
	}
}

// TestRootsAll: P6.1, against numbers without bounds.
func TestRootsAll(t *testing.T) {
	for _, n := range some() {
		worked(n).check(t)
	}
}

// TestNoRoot: P6.1, of what is none.
func TestNoRoot(t *testing.T) {
	for _, n := range []int{-1, -2, -4, -24, -1 << 60, least, least + 1, maxNum + 1, maxNum + 2, 1 << 61, 1 << 62, most - 1, most} {
		want{n, 0, 0}.check(t)
	}
	for k := range 62 {
		want{-1 << k, 0, 0}.check(t)
		want{maxNum + 1<<k, 0, 0}.check(t)
	}
}

// halvings: how often n can be halved, counted up from 1.
func halvings(n int) int {
	k := 0
	for p := wide(2); p.Cmp(wide(n)) <= 0; p.Lsh(p, 1) {
		k++
	}
	return k
}

// TestLog: P6.1.
func TestLog(t *testing.T) {
	check := func(n, want int) {
		t.Helper()
		if got := root.Log(n); got != want {
			t.Errorf("Log(%d) = %d, want %d", n, got, want)
		}
	}
	check(1, 0)
	check(2, 1)
	check(3, 1)
	check(4, 2)
	check(most, 62)
	check(most-1, 62)
	for k := 2; k <= 62; k++ {
		check(1<<k-1, k-1)
		check(1<<k, k)
		check(1<<k+1, k)
	}
	for _, n := range some() {
		if n > 0 {
			check(n, halvings(n))
		}
	}
	for _, n := range []int{0, -1, -2, -3, -9, -1 << 62, least, least + 1} {
		check(n, 0)
	}
}

// TestSquareOfRoot: P6.2, of the root and the next one.
func TestSquareOfRoot(t *testing.T) {
	for _, n := range append(some(), maxNum-1, maxNum) {
		r := root.Sqrt(n)
		if r < 0 || square(r).Cmp(wide(n)) > 0 {
			t.Fatalf("Sqrt(%d) = %d, whose square is above it", n, r)
		}
		if square(r+1).Cmp(wide(n)) <= 0 {
			t.Fatalf("Sqrt(%d) = %d, though the next one's square is not above it", n, r)
		}
	}
}

// TestRootsRise: P6.2, of numbers that rise, each of the calls.
func TestRootsRise(t *testing.T) {
	calls := []struct {
		name  string
		call  func(int) int
		begin int
	}{{"Sqrt", root.Sqrt, 0}, {"Near", root.Near, 0}, {"Log", root.Log, 1}}
	for _, c := range calls {
		for n := c.begin; n < 200000; n++ {
			if a, b := c.call(n), c.call(n+1); a > b {
				t.Fatalf("%s(%d) = %d is above %s(%d) = %d", c.name, n, a, c.name, n+1, b)
			}
		}
		l := some()
		for i, n := range l[1:] {
			low, high := min(l[i], n), max(l[i], n)
			if a, b := c.call(low), c.call(high); low >= c.begin && a > b {
				t.Fatalf("%s(%d) = %d is above %s(%d) = %d", c.name, low, a, c.name, high, b)
			}
		}
	}
}
