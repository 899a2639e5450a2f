package trig_test

import (
	"math"
	"math/big"
	"math/rand"
	"testing"

	"splicer/trig"
)

const (
	least   = math.MinInt
	most    = math.MaxInt
	maxPart = 1 << 60 // the most parts
	maxTurn = 1 << 35 // the greatest number that is turned
	one     = 1 << 24 // the cosine of no parts
)

// chapter are the numbers that the chapter writes down: the cosines of 0 to 128 parts.
func chapter() [129]int {
	return [129]int{
		16777216, 16775953, 16772163, 16765847, 16757007, 16745643, 16731757, 16715352,
		16696429, 16674992, 16651044, 16624588, 16595628, 16564169, 16530216, 16493773,
		16454846, 16413442, 16369565, 16323224, 16274424, 16223173, 16169479, 16113350,
		16054795, 15993821, 15930439, 15864658, 15796488, 15725939, 15653022, 15577747,
		15500126, 15420172, 15337895, 15253308, 15166424, 15077256, 14985817, 14892122,
		14796184, 14698017, 14597637, 14495059, 14390298, 14283370, 14174291, 14063077,
		13949745, 13834313, 13716797, 13597215, 13475586, 13351928, 13226258, 13098597,
		12968963, 12837376, 12703856, 12568423, 12431097, 12291899, 12150850, 12007971,
		11863283, 11716809, 11568571, 11418590, 11266890, 11113493, 10958422, 10801701,
		10643353, 10483403, 10321873, 10158790, 9994176, 9828057, 9660458, 9491405,
		9320922, 9149035, 8975771, 8801154, 8625213, 8447972, 8269459, 8089701,
		7908725, 7726557, 7543226, 7358759, 7173184, 6986529, 6798821, 6610090,
		6420363, 6229669, 6038037, 5845495, 5652074, 5457801, 5262706, 5066819,
		4870169, 4672785, 4474698, 4275936, 4076531, 3876512, 3675909, 3474752,
		3273072, 3070900, 2868265, 2665197, 2461729, 2257890, 2053710, 1849222,
		1644455, 1439440, 1234209, 1028791, 823219, 617523, 411733, 205882,
		0,
	}
}

func wide(x int) *big.Int { return big.NewInt(int64(x)) }

// cosine is the chapter's words done one behind the other, of any parts, worked out without bounds.
func cosine(parts *big.Int) int {
	k := int(new(big.Int).Mod(parts, wide(512)).Int64())
	if k > 256 {
		k = 512 - k
	}
	if k > 128 {
		return -chapter()[256-k]
	}
	return chapter()[k]
}

func sine(parts *big.Int) int { return cosine(new(big.Int).Sub(parts, wide(128))) }

// turned is what Turn answers, worked out without bounds: rounded down of a half more than the sum's part of 2^24.
func turned(re, im, k int) (int, int) {
	c, s := cosine(wide(k)), sine(wide(k))
	sum := func(a, b, c, d int) int {
		x := new(big.Int).Mul(wide(a), wide(b))
		x.Add(x, new(big.Int).Mul(wide(c), wide(d)))
		x.Add(x, wide(one/2))
		return int(x.Rsh(x, 24).Int64())
	}
	return sum(re, c, im, s), sum(im, c, -re, s)
}

// places are parts within the bounds: all of some turns about 0, and those at both bounds and about each power of two.
func places() []int {
	var l []int
	for k := -1600; k <= 1600; k++ {
		l = append(l, k)
	}
	for d := range 1100 {
		l = append(l, maxPart-d, -maxPart+d)
	}
	for n := 11; n < 60; n++ {
		for d := -130; d <= 130; d++ {
			l = append(l, 1<<n+d, -(1<<n)+d)
		}
	}
	return l
}

// numbers are what is turned: at the bounds, beside them, about 0, and about half of 2^24.
func numbers() []int {
	return []int{
		-maxTurn, -maxTurn + 1, -1 << 34, -1 << 24, -1<<23 - 1, -1 << 23, -1<<23 + 1, -32768, -100, -2, -1,
		0, 1, 2, 100, 32767, 1<<23 - 1, 1 << 23, 1<<23 + 1, 1 << 24, 1 << 34, maxTurn - 1, maxTurn,
	}
}

func checkTurn(t *testing.T, table *trig.Table, re, im, k int) {
	t.Helper()
	a, b := table.Turn(re, im, k)
	if wa, wb := turned(re, im, k); a != wa || b != wb {
		t.Fatalf("Turn(%d, %d, %d) = %d, %d, want %d, %d", re, im, k, a, b, wa, wb)
	}
}

func checkNoTurn(t *testing.T, table *trig.Table, re, im, k int) {
	t.Helper()
	if a, b := table.Turn(re, im, k); a != 0 || b != 0 {
		t.Fatalf("Turn(%d, %d, %d) = %d, %d, want 0, 0", re, im, k, a, b)
	}
}

// TestExamples: the chapter's, and those of a quarter.
func TestExamples(t *testing.T) {
	table := trig.Make()
	for _, c := range []struct {
		call      string
		got, want int
	}{
		{"Cos(0)", table.Cos(0), 16777216},
		{"Cos(128)", table.Cos(128), 0},
		{"Cos(256)", table.Cos(256), -16777216},
		{"Cos(384)", table.Cos(384), 0},
		{"Sin(0)", table.Sin(0), 0},
		{"Sin(128)", table.Sin(128), 16777216},
		{"Sin(256)", table.Sin(256), 0},
		{"Sin(384)", table.Sin(384), -16777216},
	} {
		if c.got != c.want {
			t.Errorf("%s = %d, want %d", c.call, c.got, c.want)
		}
	}
	if a, b := table.Turn(100, 0, 128); a != 0 || b != -100 {
		t.Errorf("Turn(100, 0, 128) = %d, %d, want 0, -100", a, b)
	}
}

// TestTableAll: P7.1, every number of the table, against the chapter's 129.
func TestTableAll(t *testing.T) {
	table := trig.Make()
	if table == nil {
		t.Fatal("Make() = nil")
	}
	first := chapter()
	for k := range 129 {
		for _, at := range []int{k, (512 - k) % 512} {
			if table[at] != first[k] {
				t.Errorf("the cosine of %d = %d, want %d", at, table[at], first[k])
			}
		}
		for _, at := range []int{256 - k, 256 + k} {
			if table[at] != -first[k] {
				t.Errorf("the cosine of %d = %d, want %d", at, table[at], -first[k])
			}
		}
	}
}

// TestTrue: P7.1, every number of the table is the nearest to the true one.
func TestTrue(t *testing.T) {
	for k, got := range trig.Make() {
		if want := int(math.Round(one * math.Cos(2*math.Pi*float64(k)/512))); got != want {
			t.Errorf("the cosine of %d = %d, but the true one is nearest to %d", k, got, want)
		}
	}
}

// TestTableNew: each table that is made is its own, and what is asked of it leaves it as it was.
func TestTableNew(t *testing.T) {
	a, b := trig.Make(), trig.Make()
	kept := *b
	for k := range a {
		a[k] = 7
	}
	for k := range 512 {
		b.Cos(k)
		b.Sin(k)
		b.Turn(k, -k, k)
	}
	if *b != kept || *trig.Make() != kept {
		t.Fatal("a table changed with another one, or when it was asked")
	}
}

// TestCosSinTurn: P7.1, of 0 to 511 parts.
func TestCosSinTurn(t *testing.T) {
	table := trig.Make()
	for k := range 512 {
		if got := table.Cos(k); got != table[k] {
			t.Errorf("Cos(%d) = %d, want %d", k, got, table[k])
		}
		if got, want := table.Sin(k), table[(k+384)%512]; got != want {
			t.Errorf("Sin(%d) = %d, want %d", k, got, want)
		}
	}
}

// TestCosSinAll: P7.1, of negative parts, of those at the bounds, and of many turns.
func TestCosSinAll(t *testing.T) {
	table := trig.Make()
	for _, k := range places() {
		if got, want := table.Cos(k), cosine(wide(k)); got != want {
			t.Fatalf("Cos(%d) = %d, want %d", k, got, want)
		}
		if got, want := table.Sin(k), sine(wide(k)); got != want {
			t.Fatalf("Sin(%d) = %d, want %d", k, got, want)
		}
	}
}

// TestFullTurns: P7.1, of parts that differ by full turns; both bounds are full turns themselves.
func TestFullTurns(t *testing.T) {
	table := trig.Make()
	for k := range 512 {
		c, s := table.Cos(k), table.Sin(k)
		for _, turns := range []int{-1 << 51, -12345678901, -3, -1, 1, 2, 1000003, 1<<51 - 1} {
			at := k + 512*turns
			if got := table.Cos(at); got != c {
				t.Fatalf("Cos(%d) = %d, want that of %d, %d", at, got, k, c)
			}
			if got := table.Sin(at); got != s {
				t.Fatalf("Sin(%d) = %d, want that of %d, %d", at, got, k, s)
			}
		}
	}
	for _, k := range []int{-maxPart, maxPart} {
		if c, s := table.Cos(k), table.Sin(k); c != one || s != 0 {
			t.Errorf("Cos(%d), Sin(%d) = %d, %d, want %d, 0", k, k, c, s, one)
		}
	}
	if c, s := table.Cos(-maxPart+1), table.Sin(-maxPart+1); c != 16775953 || s != 205882 {
		t.Errorf("one part above the lower bound has %d, %d", c, s)
	}
	if c, s := table.Cos(maxPart-1), table.Sin(maxPart-1); c != 16775953 || s != -205882 {
		t.Errorf("one part below the upper bound has %d, %d", c, s)
	}
}

// outside are parts that are none.
func outside() []int {
	l := []int{least, least + 1, least + 128, most - 128, most - 1, most}
	for d := 1; d <= 600; d++ {
		l = append(l, maxPart+d, -maxPart-d)
	}
	for n := range 62 {
		l = append(l, maxPart+1<<n, -maxPart-1<<n)
	}
	return l
}

// TestNoPart: P7.1, of parts that are none.
func TestNoPart(t *testing.T) {
	table := trig.Make()
	for _, k := range outside() {
		if c, s := table.Cos(k), table.Sin(k); c != 0 || s != 0 {
			t.Fatalf("Cos(%d), Sin(%d) = %d, %d, want 0, 0", k, k, c, s)
		}
		for _, re := range []int{-maxTurn, 0, 100, maxTurn} {
			checkNoTurn(t, table, re, 200, k)
			checkNoTurn(t, table, 200, re, k)
		}
	}
}

// TestTurnKnown: P7.1, turned back by whole quarters, at the bounds.
func TestTurnKnown(t *testing.T) {
	const m = maxTurn
	table := trig.Make()
	for _, c := range []struct{ re, im, k, a, b int }{
		{100, 7, 0, 100, 7}, {100, 7, 128, 7, -100}, {100, 7, 256, -100, -7}, {100, 7, 384, -7, 100},
		{100, 7, -128, -7, 100}, {100, 7, 512, 100, 7}, {100, 7, maxPart, 100, 7}, {100, 7, -maxPart, 100, 7},
		{m, -m, 0, m, -m}, {m, m, 128, m, -m}, {-m, m, 256, m, -m}, {-m, -m, 384, m, -m}, {m, 0, 128, 0, -m},
		{0, 0, 77, 0, 0}, {1 << 24, 0, 64, 11863283, -11863283}, {0, 1 << 24, 64, 11863283, 11863283},
		{m, m, 64, 2 * 11863283 << 11, 0}, {-m, -m, 64, -2 * 11863283 << 11, 0}, {m, -m, 64, 0, -2 * 11863283 << 11},
	} {
		if a, b := table.Turn(c.re, c.im, c.k); a != c.a || b != c.b {
			t.Errorf("Turn(%d, %d, %d) = %d, %d, want %d, %d", c.re, c.im, c.k, a, b, c.a, c.b)
		}
	}
}

// TestTurnHalves: P7.1, of sums that lie just at a half, which is rounded upwards on both sides of 0.
func TestTurnHalves(t *testing.T) {
	table := trig.Make()
	for _, c := range []struct{ re, im, k, a, b int }{
		{1 << 23, 0, 64, 5931642, -5931641}, {-1 << 23, 0, 64, -5931641, 5931642},
		{0, 1 << 23, 64, 5931642, 5931642}, {0, -1 << 23, 64, -5931641, -5931641},
		{1 << 23, 0, 192, -5931641, -5931641}, {1 << 23, 0, -64, 5931642, 5931642},
		{3 << 23, 0, 64, 17794925, -17794924},
	} {
		if a, b := table.Turn(c.re, c.im, c.k); a != c.a || b != c.b {
			t.Errorf("Turn(%d, %d, %d) = %d, %d, want %d, %d", c.re, c.im, c.k, a, b, c.a, c.b)
		}
	}
	// Of each cosine that has a bit below 2^24, the number that moves its lowest one to the half.
	for k := range 512 {
		c := cosine(wide(k))
		if c%one == 0 {
			continue
		}
		re := 1 << 23
		for x := c; x%2 == 0; x /= 2 {
			re /= 2
		}
		if sum := re * c; sum&(one-1) != one/2 {
			t.Fatalf("%d times the cosine of %d does not lie at a half", re, k)
		}
		for _, odd := range []int{-3, -1, 1, 3, 5} {
			checkTurn(t, table, odd*re, 0, k)
			checkTurn(t, table, 0, odd*re, k)
			checkTurn(t, table, odd*re, 1<<24, k)
		}
	}
}

// TestTurnAll: P7.1, of numbers at the bounds and between them, by parts of every quarter and at their bounds.
func TestTurnAll(t *testing.T) {
	table := trig.Make()
	parts := []int{
		0, 1, 63, 64, 65, 127, 128, 129, 191, 192, 193, 255, 256, 257, 320, 383, 384, 385, 448, 511, 512, 513,
		-1, -64, -127, -128, -129, -256, -384, -511, -512, -513,
		-maxPart, -maxPart + 1, -maxPart + 64, -maxPart + 127, -maxPart + 128, -maxPart + 129, -maxPart + 300,
		maxPart, maxPart - 1, maxPart - 64, maxPart - 127, maxPart - 128, maxPart - 129, maxPart - 300,
	}
	for _, re := range numbers() {
		for _, im := range numbers() {
			for _, k := range parts {
				checkTurn(t, table, re, im, k)
			}
		}
	}
	for _, re := range []int{-maxTurn, 0, maxTurn} {
		for _, im := range []int{-maxTurn, 0, maxTurn} {
			for k := -512; k < 512; k++ {
				checkTurn(t, table, re, im, k)
			}
		}
	}
	rnd := rand.New(rand.NewSource(7))
	some := func(bound int) int { return (rnd.Intn(2*bound+1) - bound) >> rnd.Intn(35) }
	for range 50000 {
		checkTurn(t, table, some(maxTurn), some(maxTurn), some(maxPart))
	}
}

// TestNoTurn: P7.1, of numbers that are none, beside ones that are.
func TestNoTurn(t *testing.T) {
	table := trig.Make()
	bad := []int{-maxTurn - 1, maxTurn + 1, -maxTurn - 2, maxTurn + 2, -1 << 36, 1 << 36, -1 << 60, 1 << 60, least, least + 1, most - 1, most}
	for _, x := range bad {
		for _, y := range append(numbers(), bad...) {
			for _, k := range []int{0, 1, 64, 128, 200, 256, 384, -1, -maxPart, maxPart, maxPart + 1, least, most} {
				checkNoTurn(t, table, x, y, k)
				checkNoTurn(t, table, y, x, k)
			}
		}
	}
}

// TestNil: P7.1, of a nil Table.
func TestNil(t *testing.T) {
	var table *trig.Table
	for _, k := range append(places(), outside()...) {
		if c, s := table.Cos(k), table.Sin(k); c != 0 || s != 0 {
			t.Fatalf("Cos(%d), Sin(%d) of a nil Table = %d, %d, want 0, 0", k, k, c, s)
		}
		for _, re := range []int{least, -maxTurn, 0, 100, maxTurn, most} {
			checkNoTurn(t, table, re, 200, k)
			checkNoTurn(t, table, 200, re, k)
		}
	}
}

// TestSquares: P7.2, of every one of 512 parts.
func TestSquares(t *testing.T) {
	table := trig.Make()
	for k := range 512 {
		c, s := table.Cos(k), table.Sin(k)
		if off := c*c + s*s - 1<<48; off < -1<<25 || off > 1<<25 {
			t.Errorf("the squares of %d parts' cosine and sine are off by %d", k, off)
		}
	}
}

// TestFourQuarters: P7.2; what is turned by no parts is as it was, too.
func TestFourQuarters(t *testing.T) {
	table := trig.Make()
	for _, re := range numbers() {
		for _, im := range numbers() {
			a, b := re, im
			for range 4 {
				a, b = table.Turn(a, b, 128)
			}
			if a != re || b != im {
				t.Fatalf("%d, %d turned a quarter four times is %d, %d", re, im, a, b)
			}
			if a, b = table.Turn(re, im, 128); a != im || b != -re {
				t.Fatalf("%d, %d turned a quarter is %d, %d", re, im, a, b)
			}
			if a, b = table.Turn(re, im, 0); a != re || b != im {
				t.Fatalf("%d, %d turned by no parts is %d, %d", re, im, a, b)
			}
		}
	}
}
