package num_test

import (
	"math"
	"math/big"
	"testing"

	"splicer/num"
)

// near is the nearest whole number to a/b, halves upwards, worked out without bounds: rounded down of (2a+b)/2b.
func near(a, b *big.Int) *big.Int {
	top := new(big.Int).Lsh(a, 1)
	top.Add(top, b)
	q, _ := new(big.Int).DivMod(top, new(big.Int).Lsh(b, 1), new(big.Int))
	return q
}

func wide(x int) *big.Int { return big.NewInt(int64(x)) }

// edges are numbers around 0 and around each power of 2, on both sides of 0, as far as an int goes.
func edges() []int {
	l := []int{math.MinInt, math.MinInt + 1, math.MaxInt - 1, math.MaxInt, 0, 5, -5, 10, -10, 1000003, -1000003}
	for n := range 63 {
		for d := -2; d <= 2; d++ {
			l = append(l, 1<<n+d, -(1<<n)+d, 3<<n>>1+d, -(3<<n>>1)+d)
		}
	}
	return l
}

func TestSat(t *testing.T) {
	for _, c := range []struct{ x, want int }{
		{0, 0}, {1, 1}, {-1, -1}, {12345, 12345}, {-12345, -12345},
		{32766, 32766}, {32767, 32767}, {32768, 32767}, {40000, 32767}, {math.MaxInt, 32767},
		{-32767, -32767}, {-32768, -32768}, {-32769, -32768}, {-40000, -32768}, {math.MinInt, -32768},
	} {
		if got := num.Sat(c.x); got != c.want {
			t.Errorf("Sat(%d) = %d, want %d", c.x, got, c.want)
		}
	}
}

func TestExamples(t *testing.T) {
	for _, c := range []struct {
		call      string
		got, want int
	}{
		{"Shr(3, 1)", num.Shr(3, 1), 2},
		{"Shr(-3, 1)", num.Shr(-3, 1), -1},
		{"Div(-5, 10)", num.Div(-5, 10), 0},
	} {
		if c.got != c.want {
			t.Errorf("%s = %d, want %d", c.call, c.got, c.want)
		}
	}
	if q, r := num.Mod(-1, 4); q != -1 || r != 3 {
		t.Errorf("Mod(-1, 4) = %d, %d, want -1, 3", q, r)
	}
}

func TestShrKnown(t *testing.T) {
	for _, c := range []struct{ x, n, want int }{
		{7, 0, 7}, {-7, 0, -7}, {0, 60, 0},
		{1, 1, 1}, {-1, 1, 0}, {5, 2, 1}, {6, 2, 2}, {7, 2, 2}, {-5, 2, -1}, {-6, 2, -1}, {-7, 2, -2},
		{1 << 61, 0, 1 << 61}, {-1 << 61, 0, -1 << 61}, {1 << 61, 60, 2}, {-1 << 61, 60, -2},
		{1 << 59, 60, 1}, {1<<59 - 1, 60, 0}, {-1 << 59, 60, 0}, {-1<<59 - 1, 60, -1},
		{1<<61 + 1, 0, 0}, {-1<<61 - 1, 0, 0}, {1<<61 + 1, 60, 0}, {-1<<61 - 1, 60, 0},
		{math.MaxInt, 1, 0}, {math.MinInt, 1, 0},
		{1 << 61, 61, 0}, {-1 << 61, 61, 0}, {1 << 40, 64, 0}, {100, math.MaxInt, 0}, {-100, math.MaxInt, 0},
		{100, -1, 0}, {-100, -1, 0}, {100, math.MinInt, 0},
	} {
		if got := num.Shr(c.x, c.n); got != c.want {
			t.Errorf("Shr(%d, %d) = %d, want %d", c.x, c.n, got, c.want)
		}
	}
}

func TestShrAll(t *testing.T) {
	for _, x := range edges() {
		for n := -2; n <= 66; n++ {
			want := new(big.Int)
			if x >= -1<<61 && x <= 1<<61 && n >= 0 && n <= 60 {
				want = near(wide(x), wide(1<<n))
			}
			if got := num.Shr(x, n); wide(got).Cmp(want) != 0 {
				t.Fatalf("Shr(%d, %d) = %d, want %s", x, n, got, want)
			}
		}
	}
}

func TestDivKnown(t *testing.T) {
	for _, c := range []struct{ a, b, want int }{
		{0, 1, 0}, {9, 1, 9}, {-9, 1, -9}, {7, 2, 4}, {-7, 2, -3}, {4, 3, 1}, {5, 3, 2}, {-4, 3, -1}, {-5, 3, -2},
		{5, 10, 1}, {4, 10, 0}, {-5, 10, 0}, {-6, 10, -1}, {15, 10, 2}, {-15, 10, -1}, {-16, 10, -2},
		{1 << 60, 1, 1 << 60}, {-1 << 60, 1, -1 << 60}, {1 << 60, 1 << 60, 1}, {-1 << 60, 1 << 60, -1},
		{1 << 59, 1 << 60, 1}, {1<<59 - 1, 1 << 60, 0}, {-1 << 59, 1 << 60, 0}, {-1<<59 - 1, 1 << 60, -1},
		{1<<60 + 1, 1, 0}, {-1<<60 - 1, 1, 0}, {math.MaxInt, 3, 0}, {math.MinInt, 3, 0},
		{1 << 60, 1<<60 + 1, 0}, {-1 << 60, 1<<60 + 1, 0}, {1 << 60, math.MaxInt, 0},
		{9, 0, 0}, {-9, 0, 0}, {9, -1, 0}, {-9, -1, 0}, {9, math.MinInt, 0},
	} {
		if got := num.Div(c.a, c.b); got != c.want {
			t.Errorf("Div(%d, %d) = %d, want %d", c.a, c.b, got, c.want)
		}
	}
}

func TestDivAll(t *testing.T) {
	for _, a := range edges() {
		for _, b := range edges() {
			want := new(big.Int)
			if a >= -1<<60 && a <= 1<<60 && b >= 1 && b <= 1<<60 {
				want = near(wide(a), wide(b))
			}
			if got := num.Div(a, b); wide(got).Cmp(want) != 0 {
				t.Fatalf("Div(%d, %d) = %d, want %s", a, b, got, want)
			}
		}
	}
}

func TestModKnown(t *testing.T) {
	for _, c := range []struct{ a, b, q, r int }{
		{0, 1, 0, 0}, {7, 1, 7, 0}, {-7, 1, -7, 0}, {7, 4, 1, 3}, {8, 4, 2, 0}, {-4, 4, -1, 0}, {-5, 4, -2, 3}, {3, 4, 0, 3},
		{math.MaxInt, 1, math.MaxInt, 0}, {math.MinInt, 1, math.MinInt, 0},
		{math.MaxInt, math.MaxInt, 1, 0}, {math.MinInt, math.MaxInt, -2, math.MaxInt - 1}, {-1, math.MaxInt, -1, math.MaxInt - 1},
		{7, 0, 0, 0}, {-7, 0, 0, 0}, {7, -1, 0, 0}, {7, -4, 0, 0}, {-7, -4, 0, 0}, {math.MinInt, -1, 0, 0}, {math.MinInt, math.MinInt, 0, 0},
	} {
		if q, r := num.Mod(c.a, c.b); q != c.q || r != c.r {
			t.Errorf("Mod(%d, %d) = %d, %d, want %d, %d", c.a, c.b, q, r, c.q, c.r)
		}
	}
}

func TestModAll(t *testing.T) {
	for _, a := range edges() {
		for _, b := range edges() {
			q, r := new(big.Int), new(big.Int)
			if b >= 1 {
				q.DivMod(wide(a), wide(b), r)
			}
			if gq, gr := num.Mod(a, b); wide(gq).Cmp(q) != 0 || wide(gr).Cmp(r) != 0 {
				t.Fatalf("Mod(%d, %d) = %d, %d, want %s, %s", a, b, gq, gr, q, r)
			}
		}
	}
}

func TestAbs(t *testing.T) {
	for _, c := range []struct{ x, want int }{
		{0, 0}, {3, 3}, {-3, 3}, {1, 1}, {-1, 1},
		{1 << 62, 1 << 62}, {-1 << 62, 1 << 62}, {1<<62 - 1, 1<<62 - 1}, {-1<<62 + 1, 1<<62 - 1},
		{1<<62 + 1, 0}, {-1<<62 - 1, 0}, {math.MaxInt, 0}, {math.MinInt, 0}, {math.MinInt + 1, 0},
	} {
		if got := num.Abs(c.x); got != c.want {
			t.Errorf("Abs(%d) = %d, want %d", c.x, got, c.want)
		}
	}
}

// off is how far b times q is from a, twice over, so that half of b is b.
func off(a, b, q int) *big.Int {
	x := new(big.Int).Mul(wide(b), wide(q))
	x.Sub(wide(a), x)
	return x.Lsh(x.Abs(x), 1)
}

// TestOffByHalf: P1.2, of Div and of Shr.
func TestOffByHalf(t *testing.T) {
	for _, a := range edges() {
		for _, b := range edges() {
			if a < -1<<60 || a > 1<<60 || b < 1 || b > 1<<60 {
				continue
			}
			if q := num.Div(a, b); off(a, b, q).Cmp(wide(b)) > 0 {
				t.Fatalf("Div(%d, %d) = %d is off by more than half of the divisor", a, b, q)
			}
		}
		for n := 0; n <= 60 && a >= -1<<61 && a <= 1<<61; n++ {
			if q := num.Shr(a, n); off(a, 1<<n, q).Cmp(wide(1<<n)) > 0 {
				t.Fatalf("Shr(%d, %d) = %d is off by more than half of the divisor", a, n, q)
			}
		}
	}
}

// TestMadeAgain: P1.2, of Mod.
func TestMadeAgain(t *testing.T) {
	for _, a := range edges() {
		for _, b := range edges() {
			if b < 1 {
				continue
			}
			q, r := num.Mod(a, b)
			x := new(big.Int).Mul(wide(q), wide(b))
			if x.Add(x, wide(r)); x.Cmp(wide(a)) != 0 || r < 0 || r >= b {
				t.Fatalf("Mod(%d, %d) = %d, %d: these do not make the number again", a, b, q, r)
			}
		}
	}
}

// TestSmall holds every call against the sentences themselves, at all small numbers.
func TestSmall(t *testing.T) {
	for a := -300; a <= 300; a++ {
		for b := 1; b <= 70; b++ {
			q := num.Div(a, b)
			if 2*b*q > 2*a+b || 2*b*(q+1) <= 2*a+b {
				t.Fatalf("Div(%d, %d) = %d is not the greatest that is not above a/b and a half", a, b, q)
			}
			q, r := num.Mod(a, b)
			if q*b > a || (q+1)*b <= a || r != a-q*b {
				t.Fatalf("Mod(%d, %d) = %d, %d is not rounded down", a, b, q, r)
			}
		}
		for n := range 12 {
			if s, d := num.Shr(a, n), num.Div(a, 1<<n); s != d {
				t.Fatalf("Shr(%d, %d) = %d, but Div by 2^%d = %d", a, n, s, n, d)
			}
		}
	}
}
