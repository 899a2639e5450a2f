package sym_test

import (
	"fmt"
	"math"
	"math/rand"
	"strconv"
	"strings"
	"testing"

	"splicer/rc"
	"splicer/sym"
)

const (
	least = math.MinInt
	most  = math.MaxInt
)

// part is from lo up to hi of the whole t.
type part struct{ lo, hi, t int }

// bitsParts: the parts of a number of n bits, by its binary digits.
func bitsParts(v, n int) []part {
	digits := ""
	if n > 0 {
		digits = fmt.Sprintf("%0*b", n, v)
	}
	var l []part
	for len(digits) > 8 {
		o, _ := strconv.ParseUint(digits[:8], 2, 8)
		l = append(l, part{int(o), int(o) + 1, 256})
		digits = digits[8:]
	}
	o, _ := strconv.ParseUint("0"+digits, 2, 16)
	return append(l, part{int(o), int(o) + 1, int(math.Pow(2, float64(len(digits))))})
}

// low: how many lower bits a number below n has that are no part of its whole.
func low(n int) int {
	switch {
	case n <= 1<<12:
		return 0
	case n <= 1<<20:
		return 8
	case n <= 1<<28:
		return 16
	}
	return 24
}

// high: how many values the highest bits of a number below n may have.
func high(n int) int {
	unit := int(math.Pow(2, float64(low(n))))
	return (n + unit - 1) / unit
}

// belowParts: the parts of a number below n, or of one that is not, but whose highest bits are those of n - 1.
func belowParts(v, n int) []part {
	unit := int(math.Pow(2, float64(low(n))))
	return append([]part{{v / unit, v/unit + 1, high(n)}}, bitsParts(v%unit, low(n))...)
}

// diffs are the parts of 64 of the differences that have some of their own.
var diffs = map[int]part{
	0:  {0, 24, 64},
	-1: {24, 32, 64},
	1:  {32, 40, 64},
	-2: {40, 45, 64},
	2:  {45, 50, 64},
	-3: {50, 53, 64},
	3:  {53, 56, 64},
}

// diffParts: the parts of a difference.
func diffParts(v int) []part {
	if p, ok := diffs[v]; ok {
		return []part{p}
	}
	if v < 0 {
		return []part{{56, 64, 64}, {0, 1, 2}, {-v - 4, -v - 3, 64}}
	}
	return []part{{56, 64, 64}, {1, 2, 2}, {v - 4, v - 3, 64}}
}

// kind says which of the three sorts of numbers one is.
type kind int

const (
	bits kind = iota
	below
	delta
)

// number is v of a kind, with its n, if it has one.
type number struct {
	kind kind
	v, n int
}

func (a number) parts() []part {
	switch a.kind {
	case bits:
		return bitsParts(a.v, a.n)
	case below:
		return belowParts(a.v, a.n)
	}
	return diffParts(a.v)
}

func (a number) put(c *rc.Coder) bool {
	switch a.kind {
	case bits:
		return sym.PutBits(c, a.v, a.n)
	case below:
		return sym.PutBelow(c, a.v, a.n)
	}
	return sym.PutDelta(c, a.v)
}

// get: what the decoder tells when it is asked for such a number.
func (a number) get(d *rc.Decoder) (int, bool) {
	switch a.kind {
	case bits:
		return sym.GetBits(d, a.n), true
	case below:
		return sym.GetBelow(d, a.n)
	}
	return sym.GetDelta(d), true
}

// one: which of t values stands next, by rc alone.
func one(d *rc.Decoder, t int) int {
	at := d.Place(t)
	d.Take(at, at+1, t)
	return at
}

// plainBits: a number of n bits, by rc alone.
func plainBits(d *rc.Decoder, n int) int {
	v := 0
	for ; n > 8; n -= 8 {
		v = v*256 + one(d, 256)
	}
	for range n {
		v *= 2
	}
	return v + one(d, int(math.Pow(2, float64(n))))
}

// plainDiff: a difference, by rc alone.
func plainDiff(d *rc.Decoder) int {
	at := d.Place(64)
	for v, p := range diffs {
		if p.lo <= at && at < p.hi {
			d.Take(p.lo, p.hi, p.t)
			return v
		}
	}
	d.Take(56, 64, 64)
	if one(d, 2) == 0 {
		return -4 - one(d, 64)
	}
	return 4 + one(d, 64)
}

// plain: what get should tell, by rc alone.
func (a number) plain(d *rc.Decoder) (int, bool) {
	switch a.kind {
	case bits:
		return plainBits(d, a.n), true
	case below:
		v := one(d, high(a.n))
		for range low(a.n) {
			v *= 2
		}
		if v += plainBits(d, low(a.n)); v >= a.n {
			return 0, false
		}
		return v, true
	}
	return plainDiff(d), true
}

var (
	manyBits = []int{0, 1, 2, 7, 8, 9, 15, 16, 17, 23, 24, 25, 30, 31}
	bounds   = []int{1, 2, 3, 64, 255, 256, 257, 4095, 4096, 4097, 4351, 4352, 4353, 100000, 1<<20 - 1, 1 << 20, 1<<20 + 1,
		1<<20 + 1<<16, 1<<20 + 1<<16 + 1, 1 << 24, 1<<28 - 1, 1 << 28, 1<<28 + 1, 1<<30 + 12345, 1<<31 - 1, 1 << 31}
)

// spread are numbers from 0 up to n - 1: both ends, and some between.
func spread(r *rand.Rand, n int) []int {
	l := []int{0, n - 1, n / 2, (n - 1) / 2, n / 3, min(1, n-1), max(n-2, 0)}
	for _, v := range []int{127, 128, 255, 256, 257, 4095, 4096, 65535, 65536, 0x123456, 1 << 24, 0x55aa55aa} {
		if v < n {
			l = append(l, v)
		}
	}
	for range 20 {
		l = append(l, r.Intn(n))
	}
	return l
}

// numbers are all sorts of numbers, at their edges and between.
func numbers() []number {
	r := rand.New(rand.NewSource(1))
	var l []number
	for _, n := range manyBits {
		for _, v := range spread(r, 1<<n) {
			l = append(l, number{bits, v, n})
		}
	}
	for _, n := range bounds {
		for _, v := range spread(r, n) {
			l = append(l, number{below, v, n})
		}
	}
	for v := -67; v <= 67; v++ {
		l = append(l, number{delta, v, 0})
	}
	return l
}

// nones are numbers that none of the three can code.
func nones() []number {
	l := []number{
		{bits, 0, -1}, {bits, 0, 32}, {bits, 1, 32}, {bits, 0, 33}, {bits, 0, 63}, {bits, 0, 64}, {bits, 0, 65}, {bits, 0, -8}, {bits, 0, 256},
		{bits, 0, least}, {bits, 0, most}, {bits, most, most}, {bits, least, least}, {bits, -1, -1}, {bits, -1, 32}, {bits, 1 << 31, 32},
		{bits, 0, 1 << 32}, {bits, 0, 1<<32 + 8},
		{below, 0, 0}, {below, -1, 0}, {below, 0, -1}, {below, -1, -1}, {below, -2, -1}, {below, 0, -4096}, {below, 0, 1<<31 + 1}, {below, 1 << 31, 1<<31 + 1},
		{below, 1, 1<<31 + 1}, {below, 0, 1 << 32}, {below, 0, 1<<32 + 2}, {below, 0, most}, {below, most, most}, {below, most - 1, most},
		{below, 0, least}, {below, least, least}, {below, least, most}, {below, most, least},
		{delta, -68, 0}, {delta, 68, 0}, {delta, -69, 0}, {delta, 69, 0}, {delta, -70, 0}, {delta, 256, 0}, {delta, 1 << 32, 0}, {delta, -1 << 32, 0},
		{delta, 1<<32 + 1, 0}, {delta, least, 0}, {delta, least + 1, 0}, {delta, most, 0},
	}
	for _, n := range manyBits {
		for _, v := range []int{-1, -2, 1 << n, 1<<n + 1, 1 << 31, 1 << 32, 1<<32 + 1, 1 << 62, -1 << 31, -1 << n, least, most} {
			l = append(l, number{bits, v, n})
		}
	}
	for _, n := range bounds {
		for _, v := range []int{-1, -2, n, n + 1, 2 * n, 1 << 31, 1 << 32, 1 << 62, -1 << 31, -n, least, most} {
			l = append(l, number{below, v, n})
		}
	}
	return l
}

// code: the parts, by rc alone.
func code(c *rc.Coder, l []part) {
	for _, p := range l {
		c.Code(p.lo, p.hi, p.t)
	}
}

// ahead are parts that may stand ahead of a number, so that it is coded at some range and with some carry to come.
func ahead() [][]part {
	return [][]part{nil, {{1, 2, 2}}, {{128, 129, 257}, {1, 2, 2}}, {{5, 9, 1000}, {0, 1, 3}, {65535, 65536, 65536}}, {{77, 78, 65521}}}
}

// sameEnd: both coders told just the same, and do so too when they go on.
func sameEnd(t *testing.T, what any, got, want *rc.Coder) {
	t.Helper()
	if a, b := got.End(), want.End(); a != b {
		t.Fatalf("%v: octets %x, want %x", what, a, b)
	}
	goOn := []part{{1, 2, 3}, {65534, 65535, 65536}, {1, 2, 2}}
	code(got, goOn)
	code(want, goOn)
	if a, b := got.End(), want.End(); a != b {
		t.Fatalf("%v: octets %x with more behind them, want %x", what, a, b)
	}
}

// sameRest: both decoders stand at the same place, and do so too when they go on.
func sameRest(t *testing.T, what any, got, want *rc.Decoder) {
	t.Helper()
	for i := range 4 {
		if a, b := one(got, 65536-i), one(want, 65536-i); a != b {
			t.Fatalf("%v: %d stands behind it, want %d", what, a, b)
		}
	}
}

func TestExample(t *testing.T) {
	c := &rc.Coder{}
	if !sym.PutDelta(c, 0) || c.End() != "" {
		t.Errorf("PutDelta of 0, End: %x, want no octets", c.End())
	}
}

// TestKnown: P5.1, octets that are worked out by hand.
func TestKnown(t *testing.T) {
	for _, a := range []struct {
		number number
		want   string
	}{
		{number{bits, 0, 0}, ""},
		{number{bits, 0, 31}, ""},
		{number{bits, 1, 1}, "\x7f\xff\xff\xff"},
		{number{bits, 1, 8}, "\x00\xff\xff\xff"},
		{number{bits, 255, 8}, "\xfe\xff\xff\x01"},   // r is ffffff
		{number{bits, 0x1ff, 9}, "\xff\x7f\xff\x80"}, // Range is 10000fe behind the first eight: half of it more
		{number{bits, 1, 9}, "\x00\x7f\xff\xff\x80"}, // Range is ffffff00 behind the first eight, and half of it 7fffff80
		{number{below, 0, 1}, ""},
		{number{below, 1, 2}, "\x7f\xff\xff\xff"},
		{number{below, 4095, 4096}, "\xff\xef\xf0\x01"}, // r is fffff: 4095 of it
		{number{below, 4096, 4097}, "\xf0\xf0\xf0\xf0"}, // r is f0f0f0f: 16 of it, then eight bits 0
		{number{delta, 0, 0}, ""},
		{number{delta, -1, 0}, "\x5f\xff\xff\xe8"}, // r is 3ffffff: 24 of it
		{number{delta, 1, 0}, "\x7f\xff\xff\xe0"},
		{number{delta, -2, 0}, "\x9f\xff\xff\xd8"},
		{number{delta, 2, 0}, "\xb3\xff\xff\xd3"},
		{number{delta, -3, 0}, "\xc7\xff\xff\xce"},
		{number{delta, 3, 0}, "\xd3\xff\xff\xcb"},
		{number{delta, -4, 0}, "\xdf\xff\xff\xc8"},
		{number{delta, 4, 0}, "\xef\xff\xff\xe3"},  // half of Range 20000037 more
		{number{delta, -5, 0}, "\xe0\x3f\xff\xc8"}, // a 64th of Range 1000001b more
	} {
		c := &rc.Coder{}
		if ok := a.number.put(c); !ok || c.End() != a.want {
			t.Errorf("%+v: %v, octets %x, want %x", a.number, ok, c.End(), a.want)
		}
	}
}

// TestPut: P5.1, each number by itself and behind some parts is coded as just the parts that the chapter names.
func TestPut(t *testing.T) {
	for _, a := range numbers() {
		for _, l := range ahead() {
			got, want := &rc.Coder{}, &rc.Coder{}
			code(got, l)
			code(want, l)
			if !a.put(got) {
				t.Fatalf("%+v is told to be none", a)
			}
			code(want, a.parts())
			sameEnd(t, a, got, want)
		}
	}
}

// TestPutNone: P5.1, what is none is told false, and codes nothing.
func TestPutNone(t *testing.T) {
	for _, a := range nones() {
		for _, l := range ahead() {
			got, want := &rc.Coder{}, &rc.Coder{}
			code(got, l)
			code(want, l)
			if a.put(got) {
				t.Fatalf("%+v is told to be coded", a)
			}
			sameEnd(t, a, got, want)
		}
	}
}

// TestPutDiffs: P5.1, which differences there are.
func TestPutDiffs(t *testing.T) {
	for v := -1000; v <= 1000; v++ {
		if got, want := sym.PutDelta(&rc.Coder{}, v), v >= -67 && v <= 67; got != want {
			t.Errorf("PutDelta(%d) = %v, want %v", v, got, want)
		}
	}
}

// TestGet: P5.2, each number, coded by its parts alone, is taken and told, and what stands behind it comes next.
func TestGet(t *testing.T) {
	for _, a := range numbers() {
		for _, l := range ahead() {
			c := &rc.Coder{}
			code(c, l)
			code(c, a.parts())
			code(c, diffParts(-9))
			code(c, bitsParts(12345, 14))
			d := rc.New(c.End())
			for _, p := range l {
				d.Take(p.lo, p.hi, p.t)
			}
			if v, ok := a.get(d); v != a.v || !ok {
				t.Fatalf("%+v is told as %d, %v", a, v, ok)
			}
			if v, w := sym.GetDelta(d), sym.GetBits(d, 14); v != -9 || w != 12345 {
				t.Fatalf("behind %+v stand %d and %d, want -9 and 12345", a, v, w)
			}
		}
	}
}

// texts are octets of which many were told by no coder.
func texts() []string {
	l := []string{"", "\x00", "\xff", "\x80", "\x01", "\x00\x00\x00\x01", strings.Repeat("\xff", 3), strings.Repeat("\xff", 100), strings.Repeat("\x00", 50) + "\x01",
		"\xfe\xff\xff\x01", "\x7f\xff\xff\xff", strings.Repeat("\x80\x7f", 30)}
	r := rand.New(rand.NewSource(2))
	for n := range 300 {
		o := make([]byte, n)
		r.Read(o)
		l = append(l, string(o))
	}
	return l
}

// TestGetAny: P5.2, of any octets, and beyond their end, is told what rc alone tells of the parts that the chapter names.
func TestGetAny(t *testing.T) {
	all := numbers()
	refused := 0
	for i, s := range texts() {
		r := rand.New(rand.NewSource(int64(i)))
		got, want := rc.New(s), rc.New(s)
		for range len(s) + 40 {
			a := all[r.Intn(len(all))]
			if r.Intn(3) == 0 {
				a = number{kind: delta}
			}
			v, ok := a.get(got)
			w, fine := a.plain(want)
			if v != w || ok != fine {
				t.Fatalf("of %x: kind %d of n %d is told as %d, %v, want %d, %v", s, a.kind, a.n, v, ok, w, fine)
			}
			if !ok {
				refused++
			}
		}
		sameRest(t, s, got, want)
	}
	if refused < 100 {
		t.Fatalf("%d numbers were not below n: the test says nothing", refused)
	}
}

// TestGetEnd: P5.2, numbers behind the end of all octets: those whose octets are 0.
func TestGetEnd(t *testing.T) {
	for _, a := range numbers() {
		d := rc.New("")
		for range 20 {
			if v, ok := a.get(d); v != 0 || !ok {
				t.Fatalf("of no octets: kind %d of n %d is told as %d, %v, want 0, true", a.kind, a.n, v, ok)
			}
		}
	}
}

// TestGetNone: P5.2, n that may not be: 0, and false, and nothing is taken.
func TestGetNone(t *testing.T) {
	for _, s := range texts() {
		got, want := rc.New(s), rc.New(s)
		for _, n := range []int{-1, -2, -8, -31, -32, 32, 33, 40, 63, 64, 65, 256, 1 << 31, 1 << 32, 1<<32 + 8, -1 << 32, least, least + 1, most} {
			if v := sym.GetBits(got, n); v != 0 {
				t.Fatalf("GetBits(%d) of %x = %d, want 0", n, s, v)
			}
		}
		for _, n := range []int{0, -1, -2, -4096, -4097, 1<<31 + 1, 1 << 32, 1<<32 + 1, 1 << 62, -1 << 31, -1 << 32, least, least + 1, most} {
			if v, ok := sym.GetBelow(got, n); v != 0 || ok {
				t.Fatalf("GetBelow(%d) of %x = %d, %v, want 0, false", n, s, v, ok)
			}
		}
		sameRest(t, s, got, want)
	}
}

// TestGetNotBelow: P5.2, numbers that octets tell, from n on: 0 and false, and what stands behind them is told next.
func TestGetNotBelow(t *testing.T) {
	some := 0
	for _, n := range bounds {
		unit := int(math.Pow(2, float64(low(n))))
		end := high(n) * unit // up to here numbers have the highest bits that those below n may have
		for _, v := range []int{n, n + 1, (n + end) / 2, end - 1} {
			if v < n || v >= end {
				continue
			}
			some++
			c := &rc.Coder{}
			code(c, belowParts(n-1, n))
			code(c, belowParts(v, n))
			code(c, diffParts(-9))
			code(c, belowParts(n-1, n))
			d := rc.New(c.End())
			if got, ok := sym.GetBelow(d, n); got != n-1 || !ok {
				t.Fatalf("%d below %d is told as %d, %v", n-1, n, got, ok)
			}
			if got, ok := sym.GetBelow(d, n); got != 0 || ok {
				t.Fatalf("%d, which is not below %d, is told as %d, %v, want 0, false", v, n, got, ok)
			}
			if got := sym.GetDelta(d); got != -9 {
				t.Fatalf("behind %d, which is not below %d, stands %d, want -9", v, n, got)
			}
			if got, ok := sym.GetBelow(d, n); got != n-1 || !ok {
				t.Fatalf("%d below %d, behind what is not, is told as %d, %v", n-1, n, got, ok)
			}
		}
	}
	if some < 20 {
		t.Fatalf("%d numbers: the test says nothing", some)
	}
}

// TestOrder: P5.3, all sorts of numbers one behind the other, with what is none between, are told again in order.
func TestOrder(t *testing.T) {
	all, bad := numbers(), nones()
	for seed := range int64(200) {
		r := rand.New(rand.NewSource(seed))
		c := &rc.Coder{}
		var l []number
		for range seed * 3 {
			a := all[r.Intn(len(all))]
			if r.Intn(2) == 0 {
				a = number{delta, r.Intn(135) - 67, 0}
			}
			if !a.put(c) || bad[r.Intn(len(bad))].put(c) {
				t.Fatalf("%+v is told to be none, or what is none behind it to be coded", a)
			}
			l = append(l, a)
		}
		d := rc.New(c.End())
		for i, a := range l {
			if v, ok := a.get(d); v != a.v || !ok {
				t.Fatalf("number %d of %d, %+v, is told as %d, %v", i, len(l), a, v, ok)
			}
		}
	}
}

// TestOrderAll: P5.3, all of the numbers in one, forwards and backwards.
func TestOrderAll(t *testing.T) {
	l := numbers()
	c := &rc.Coder{}
	for i := range l {
		if !l[i].put(c) || !l[len(l)-1-i].put(c) {
			t.Fatalf("%+v or %+v is told to be none", l[i], l[len(l)-1-i])
		}
	}
	d := rc.New(c.End())
	for i := range l {
		for _, a := range []number{l[i], l[len(l)-1-i]} {
			if v, ok := a.get(d); v != a.v || !ok {
				t.Fatalf("%+v is told as %d, %v", a, v, ok)
			}
		}
	}
}

// TestNil: a nil Coder is told what may be coded, and what may not; a nil Decoder and a zero one tell what is 0.
func TestNil(t *testing.T) {
	for _, a := range numbers() {
		if !a.put(nil) {
			t.Fatalf("%+v is told to be none, with a nil Coder", a)
		}
		for _, d := range []*rc.Decoder{nil, {}} {
			if v, ok := a.get(d); v != 0 || !ok {
				t.Fatalf("kind %d of n %d is told as %d, %v, with no octets at all", a.kind, a.n, v, ok)
			}
			if d != nil && *d != (rc.Decoder{}) {
				t.Fatalf("a zero Decoder is changed by kind %d of n %d", a.kind, a.n)
			}
		}
	}
	for _, a := range nones() {
		if a.put(nil) {
			t.Fatalf("%+v is told to be coded, with a nil Coder", a)
		}
	}
	for _, d := range []*rc.Decoder{nil, {}} {
		for _, n := range []int{-1, 32, least, most} {
			if v := sym.GetBits(d, n); v != 0 {
				t.Fatalf("GetBits(%d) = %d, with no octets at all", n, v)
			}
		}
		for _, n := range []int{0, -1, 1<<31 + 1, least, most} {
			if v, ok := sym.GetBelow(d, n); v != 0 || ok {
				t.Fatalf("GetBelow(%d) = %d, %v, with no octets at all", n, v, ok)
			}
		}
	}
}
