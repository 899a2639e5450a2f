package rc_test

import (
	"math"
	"math/big"
	"math/rand"
	"strings"
	"testing"

	"splicer/rc"
)

// part is from lo up to hi of the whole t.
type part struct{ lo, hi, t int }

// model is a coder whose Low is one number of all its octets, so that nothing is ever carried by hand.
type model struct {
	low  *big.Int
	size int64
	told int // how many octets are ahead of the four of Low
}

func newModel() *model { return &model{low: big.NewInt(0), size: 1<<32 - 1} }

// narrowed: the words' r Lo, and the Range that the part has.
func narrowed(size int64, p part) (int64, int64) {
	r := size / int64(p.t)
	if p.hi == p.t {
		return r * int64(p.lo), size - r*int64(p.lo)
	}
	return r * int64(p.lo), r * int64(p.hi-p.lo)
}

func (m *model) code(p part) {
	ahead, size := narrowed(m.size, p)
	m.low.Add(m.low, big.NewInt(ahead))
	for m.size = size; m.size < 1<<24; m.size *= 256 {
		m.low.Lsh(m.low, 8)
		m.told++
	}
}

// all: the octets told and the four of Low, with those that are 0 at the end.
func (m *model) all() string { return string(m.low.FillBytes(make([]byte, m.told+4))) }

func (m *model) end() string { return strings.TrimRight(m.all(), "\x00") }

// slow is a decoder, word by word as the chapter says it.
type slow struct {
	octets     string
	at         int
	code, size int64
}

func newSlow(s string) *slow {
	d := &slow{octets: s, size: 1<<32 - 1}
	for range 4 {
		d.code = d.code*256 + d.next()
	}
	return d
}

func (d *slow) next() int64 {
	d.at++
	if d.at > len(d.octets) {
		return 0
	}
	return int64(d.octets[d.at-1])
}

func (d *slow) place(t int) int {
	place := d.code / (d.size / int64(t))
	if place > int64(t)-1 {
		place = int64(t) - 1
	}
	return int(place)
}

func (d *slow) take(p part) {
	ahead, size := narrowed(d.size, p)
	d.code, d.size = d.code-ahead, size
	if d.code >= d.size {
		d.code = d.size - 1
	}
	if d.code < 0 {
		d.code = 0
	}
	for d.size < 1<<24 {
		d.code, d.size = d.code*256+d.next(), d.size*256
	}
}

// wholes are wholes at the edges, and ordinary ones, most of which the range does not divide.
var wholes = []int{1, 2, 3, 4, 5, 7, 10, 255, 256, 257, 1000, 4097, 1<<15 - 1, 1 << 15, 1<<15 + 1, 1<<16 - 2, 1<<16 - 1, 1 << 16}

// edges are parts of t at its edges.
func edges(t int) []part {
	l := []part{{0, t, t}, {0, 1, t}, {t - 1, t, t}}
	if t > 1 {
		l = append(l, part{0, t - 1, t}, part{1, t, t}, part{t / 2, t, t}, part{t / 2, t/2 + 1, t})
	}
	return l
}

// allEdges are the parts at the edges of all wholes.
func allEdges() []part {
	var l []part
	for _, t := range wholes {
		l = append(l, edges(t)...)
	}
	return l
}

// noParts are what is no part.
func noParts() []part {
	const least, most = math.MinInt, math.MaxInt
	return []part{
		{0, 0, 1}, {1, 1, 2}, {2, 1, 2}, {2, 2, 2}, {1, 0, 2}, {5, 3, 10}, {1 << 16, 1 << 16, 1 << 16}, // Lo not below Hi
		{-1, 1, 2}, {-1, 0, 2}, {-2, -1, 2}, {least, 1, 2}, {least, 2, 2}, {least, most, 2}, {-1, 2, 2}, // Lo below 0
		{0, 2, 1}, {0, 3, 2}, {1, 3, 2}, {2, 3, 2}, {0, 1<<16 + 1, 1 << 16}, {0, most, 2}, {1, most, 1 << 16}, // Hi above T
		{0, 0, 0}, {0, 1, 0}, {-1, 0, 0}, {1, 2, 0}, // T of 0
		{0, 1, -1}, {-2, -1, -1}, {-1, 0, -1}, {0, 1, -2}, {0, 1, -1 << 16}, {0, 1, least}, {least, -1, -1}, {least, least + 1, least + 2}, // T below 0
		{0, 1, 1<<16 + 1}, {0, 1<<16 + 1, 1<<16 + 1}, {1, 2, 1 << 17}, {0, 1, 1 << 32}, {0, 1, 1<<32 - 1}, {0, 1, 1<<32 + 1}, // T above 2^16
		{0, 1, 1<<32 + 2}, {0, 1, 1 << 62}, {0, 1, most}, {0, most, most}, {most - 1, most, most}, {1, most, most}, {least, most, most},
		{1 << 32, 1<<32 + 1, 2}, {0, 1<<32 + 1, 2}, {-1 << 32, 1, 2}, {most, least, 2}, {least, least, least}, {most, most, most},
	}
}

// someParts are n parts by chance, the same each time for one seed: narrow ones, wide ones, and those at edges.
func someParts(seed int64, n int) []part {
	r := rand.New(rand.NewSource(seed))
	ready := allEdges()
	l := make([]part, n)
	for i := range l {
		switch t := 1 + r.Intn(1<<16); r.Intn(4) {
		case 0:
			l[i] = ready[r.Intn(len(ready))]
		case 1:
			lo := r.Intn(t)
			l[i] = part{lo, lo + 1, t}
		case 2:
			t = 1 + t%20
			lo := r.Intn(t)
			l[i] = part{lo, lo + 1 + r.Intn(t-lo), t}
		default:
			lo := r.Intn(t)
			l[i] = part{lo, lo + 1 + r.Intn(t-lo), t}
		}
	}
	return l
}

// lists are lists of parts: none, one, many of a kind, and many by chance.
func lists() [][]part {
	l := [][]part{nil}
	for _, p := range allEdges() {
		l = append(l, []part{p})
		many := make([]part, 50)
		for i := range many {
			many[i] = p
		}
		l = append(l, many)
	}
	for seed := range int64(300) {
		l = append(l, someParts(seed, int(seed)))
	}
	return append(l, someParts(1000, 5000))
}

// coded is a coder of the parts.
func coded(l []part) *rc.Coder {
	c := &rc.Coder{}
	for _, p := range l {
		c.Code(p.lo, p.hi, p.t)
	}
	return c
}

// modelled is a model of the parts.
func modelled(l []part) *model {
	m := newModel()
	for _, p := range l {
		m.code(p)
	}
	return m
}

// sameEnd: c tells just what m does.
func sameEnd(t *testing.T, c *rc.Coder, m *model) {
	t.Helper()
	if got, want := c.End(), m.end(); got != want {
		t.Fatalf("End() = %x, want %x", got, want)
	}
}

func TestExamples(t *testing.T) {
	c := &rc.Coder{}
	if got := c.End(); got != "" {
		t.Errorf("nothing: End() = %x, want no octets", got)
	}
	c.Code(1, 2, 2)
	if got := c.End(); got != "\x7f\xff\xff\xff" {
		t.Errorf("1 to 2 of 2: End() = %x, want 7fffffff", got)
	}
}

// TestCodeKnown: P4.1, octets that are worked out by hand.
func TestCodeKnown(t *testing.T) {
	for _, c := range []struct {
		parts []part
		want  string
	}{
		{nil, ""},
		{[]part{{0, 1, 1}}, ""},
		{[]part{{0, 1, 2}}, ""},
		{[]part{{0, 1 << 16, 1 << 16}}, ""},
		{[]part{{1, 2, 3}}, "\x55\x55\x55\x55"},
		{[]part{{1, 2, 2}, {1, 2, 2}}, "\xbf\xff\xff\xff"},            // Range is 2^31 as the last part has what is left
		{[]part{{1, 3, 4}}, "\x3f\xff\xff\xff"},                       // r is 2^30 - 1
		{[]part{{1<<16 - 1, 1 << 16, 1 << 16}}, "\xff\xfe\x00\x01"},   // r is 65535: 65535 of 65535
		{[]part{{1, 2, 1 << 16}}, "\x00\x00\xff\xff"},                 // two octets 0 are told, and the two of r are left in Low
		{[]part{{0, 1, 1 << 16}, {1, 2, 2}}, "\x00\x00\x7f\xff\x80"},  // Range is 65535 2^16: half of it is 7fff8000
		{[]part{{1, 2, 1 << 16}, {0, 1, 1}}, "\x00\x00\xff\xff"},      // all of a whole of 1 says nothing
		{[]part{{0, 1, 2}, {1, 2, 2}}, "\x3f\xff\xff\xff"},            // Range is 2^31 - 1: the half that is no last part
		{[]part{{0, 2, 3}, {0, 3, 3}, {1, 2, 2}}, "\x55\x55\x55\x55"}, // half of two thirds
	} {
		if got := coded(c.parts).End(); got != c.want {
			t.Errorf("End() of %v = %x, want %x", c.parts, got, c.want)
		}
	}
}

// TestCodeAll: P4.1, against a coder of one great number, behind each part: End between parts leaves the coder as it was.
func TestCodeAll(t *testing.T) {
	for _, l := range lists() {
		asked, m := &rc.Coder{}, newModel()
		sameEnd(t, asked, m)
		for i, p := range l {
			asked.Code(p.lo, p.hi, p.t)
			m.code(p)
			if i < 300 || i == len(l)-1 {
				sameEnd(t, asked, m)
				sameEnd(t, asked, m)
			}
		}
		sameEnd(t, coded(l), m)
	}
}

// astride are n parts each of which holds the number x, that begins with those octets and is 0 behind them, with
// something below it and something above it.
func astride(n int, octets string, t int) ([]part, *model) {
	m, l := newModel(), []part{}
	for range n {
		x := new(big.Int).SetBytes([]byte(octets))
		x.Lsh(x, uint(8*(m.told+4-len(octets))))
		at := int(x.Sub(x, m.low).Int64() / (m.size / int64(t)))
		p := part{min(at, t-1), min(at, t-1) + 1, t}
		m.code(p)
		l = append(l, p)
	}
	return l, m
}

// TestCarry: P4.1, parts that come ever nearer to a number from below, so that octets 255 are told one behind the other,
// and then one above it, by which one is carried through all of them.
func TestCarry(t *testing.T) {
	longest := 0
	for _, octets := range []string{"\x80", "\x01", "\xff", "\x12\x34", "\x00\x01", "\xff\xff", "\x12\xff", "\x01\x00\x01", "\xfe\x00\xff\x01"} {
		for _, whole := range []int{3, 5, 7, 11, 13, 101, 1001, 65521} {
			for n := 1; n <= 40; n++ {
				l, m := astride(n, octets, whole)
				below := m.all()
				c := coded(l)
				sameEnd(t, c, m)
				l = append(l, part{whole - 1, whole, whole})
				m.code(l[n])
				c.Code(l[n].lo, l[n].hi, l[n].t)
				sameEnd(t, c, m)
				for _, p := range someParts(int64(n), 20) {
					l = append(l, p)
					m.code(p)
					c.Code(p.lo, p.hi, p.t)
					sameEnd(t, c, m)
				}
				told := min(len(below)-4, len(octets)+20) // the octets ahead of Low, which nothing but a carry may change
				if run := carried(below, m.all()[:told]); run > longest {
					longest = run
				}
				taken(t, l, c.End())
			}
		}
	}
	if longest < 10 {
		t.Fatalf("at most %d octets 255 were carried through: the test says nothing", longest)
	}
}

// carried: how many octets 255 became 0 as one was carried through them.
func carried(below, above string) int {
	n := 0
	for i := range above {
		if below[i] == 255 && above[i] == 0 {
			n++
		}
	}
	return n
}

// TestCarryKnown: P4.1, carries that are worked out by hand, to the octet told last, and through two octets 255.
func TestCarryKnown(t *testing.T) {
	// of 257 r is ff00ff, and 128 r is 7f807f80: 7f is told, Low is 807f8000 and Range ff00ff00
	near := []part{{128, 129, 257}, {1, 2, 2}} // half of it, 7f807f80, is more: Low is ffffff80, Range 7f807f80
	first := part{0, 1, 256}                   // r is 7f807f: ff is told, Range is 7f807f00
	last := part{255, 256, 256}                // 255 r is 7f00fe81, and Range is 7f807f or some more: one octet is told
	for _, c := range []struct {
		parts []part
		want  string
	}{
		{near[:1], "\x7f\x80\x7f\x80"},
		{near, "\x7f\xff\xff\xff\x80"},
		{[]part{near[0], near[1], last}, "\x80\x7f\x00\xfe\x01"},
		{[]part{near[0], near[1], first, first}, "\x7f\xff\xff\xff\x80"},
		{[]part{near[0], near[1], first, first, last}, "\x80\x00\x00\x7e\x80\xfe\x81"},
	} {
		if got := coded(c.parts).End(); got != c.want {
			t.Errorf("End() of %v = %x, want %x", c.parts, got, c.want)
		}
	}
}

// TestZeros: P4.1, octets 0 at the end of all are left away, those that were told too, and none that stands ahead of others.
func TestZeros(t *testing.T) {
	c := &rc.Coder{}
	for n := range 100 {
		c.Code(0, 1, 1<<16)
		if got := c.End(); got != "" {
			t.Fatalf("End() behind %d times the first of 2^16 = %x, want no octets", n+1, got)
		}
	}
	c.Code(1, 2, 2)
	got := c.End()
	if len(got) < 150 || strings.Trim(got, "\x00") == "" || strings.HasSuffix(got, "\x00") || got[:150] != strings.Repeat("\x00", 150) {
		t.Fatalf("End() = %x, want many octets 0 and then others", got)
	}
	behind := got
	for range 100 {
		c.Code(0, 1, 1<<16)
		if got := c.End(); got != behind {
			t.Fatalf("End() behind parts that begin at 0 = %x, want %x", got, behind)
		}
	}
}

// TestEndNothing: P4.1, what a whole's parts say when they are all of it.
func TestEndNothing(t *testing.T) {
	l := someParts(5, 40)
	c := coded(l)
	want := c.End()
	for range 1000 {
		c.Code(0, 1, 1)
		if got := c.End(); got != want {
			t.Fatalf("End() behind all of a whole of 1 = %x, want %x", got, want)
		}
	}
	for _, whole := range wholes {
		c := &rc.Coder{}
		for range 1000 {
			c.Code(0, whole, whole)
		}
		if got := c.End(); got != "" {
			t.Fatalf("End() behind all of a whole of %d = %x, want no octets", whole, got)
		}
		c.Code(1, 2, 2)
		if got := c.End(); got != "\x7f\xff\xff\xff" {
			t.Fatalf("1 to 2 of 2 behind all of a whole of %d: End() = %x, want 7fffffff", whole, got)
		}
	}
}

// TestCodeNoPart: P4.1, nothing is coded by what is no part, at first and between parts.
func TestCodeNoPart(t *testing.T) {
	for _, bad := range noParts() {
		c, m := &rc.Coder{}, newModel()
		c.Code(bad.lo, bad.hi, bad.t)
		if got := c.End(); got != "" || *c != (rc.Coder{}) {
			t.Fatalf("End() behind %v, which is no part, = %x, want no octets", bad, got)
		}
		for _, p := range someParts(7, 30) {
			c.Code(p.lo, p.hi, p.t)
			m.code(p)
			c.Code(bad.lo, bad.hi, bad.t)
			sameEnd(t, c, m)
		}
	}
}

// TestNilCoder: P4.1, of a nil Coder.
func TestNilCoder(t *testing.T) {
	var c *rc.Coder
	for _, p := range append(allEdges(), noParts()...) {
		c.Code(p.lo, p.hi, p.t)
		if got := c.End(); got != "" {
			t.Fatalf("End() of a nil Coder = %x, want no octets", got)
		}
	}
}

// TestCoderCopied: P4.1, a coder's copy, as a value, goes on by itself, and so does the one it was copied from.
func TestCoderCopied(t *testing.T) {
	for n := range 60 {
		l := someParts(int64(n), n)
		a := coded(l)
		b := *a
		one, two := someParts(101, 40), someParts(102, 40)
		for i := range one {
			a.Code(one[i].lo, one[i].hi, one[i].t)
			b.Code(two[i].lo, two[i].hi, two[i].t)
			sameEnd(t, a, modelled(append(append([]part{}, l...), one[:i+1]...)))
			sameEnd(t, &b, modelled(append(append([]part{}, l...), two[:i+1]...)))
		}
	}
}

// taken: P4.3, a decoder of what was told has its place in each part, as it takes them one by one.
func taken(t *testing.T, l []part, told string) {
	t.Helper()
	d := rc.New(told)
	for i, p := range l {
		if at := d.Place(p.t); at < p.lo || at >= p.hi {
			t.Fatalf("of %d parts the place in that at %d, %v, is %d (octets %.60x)", len(l), i, p, at, told)
		}
		d.Take(p.lo, p.hi, p.t)
	}
}

// TestTaken: P4.3.
func TestTaken(t *testing.T) {
	for _, l := range lists() {
		taken(t, l, coded(l).End())
	}
}

// TestTakenShort: P4.3, all that two and three small parts can be.
func TestTakenShort(t *testing.T) {
	var l []part
	for whole := 1; whole <= 4; whole++ {
		for lo := range whole {
			for hi := lo + 1; hi <= whole; hi++ {
				l = append(l, part{lo, hi, whole})
			}
		}
	}
	for _, a := range l {
		for _, b := range l {
			for _, c := range l {
				three := []part{a, b, c}
				taken(t, three, coded(three).End())
			}
		}
	}
}

// TestTakenLong: P4.3, many parts, in time that grows with their number alone.
func TestTakenLong(t *testing.T) {
	l := someParts(9, 1<<18)
	taken(t, l, coded(l).End())
	for i := range l { // and those by which octets 0, and octets 255, are told for ever
		l[i] = part{0, 1, 1 << 16}
	}
	taken(t, l, coded(l).End())
	for i := range l {
		l[i] = part{1<<16 - 1, 1 << 16, 1 << 16}
	}
	taken(t, l, coded(l).End())
	l, _ = astride(500, "\x80", 65521)
	l = append(l, part{65520, 65521, 65521})
	taken(t, l, coded(l).End())
}

// samePlaces: d and m have the same places in all wholes.
func samePlaces(t *testing.T, d *rc.Decoder, m *slow) {
	t.Helper()
	for _, whole := range wholes {
		if got, want := d.Place(whole), m.place(whole); got != want {
			t.Fatalf("Place(%d) = %d, want %d (octets %.60x)", whole, got, want, m.octets)
		}
	}
}

// someOctets are octets that no coder need have told, of 0, of fewer than four, and of many.
func someOctets() []string {
	l := []string{"", "\x00", "\xff", "\x80", "a", "ab", "abc", "abcd", "abcde", "\xff\xff\xff", "\xff\xff\xff\xfe", "\xff\xff\xff\xff",
		"\x7f\xff\xff\xff", "\x80\x00", "\x00\x00\x00\x00\x00", "\x00\x00\x00\x01", "\x00\x00\x00\x00\xff", "h\u00e9, \u2192 \U0001d11e",
		strings.Repeat("\xff", 50), strings.Repeat("\x00", 50), strings.Repeat("\x00\xff", 50), strings.Repeat("\x80", 9)}
	r := rand.New(rand.NewSource(4))
	for n := range 60 {
		octets := make([]byte, n)
		r.Read(octets)
		l = append(l, string(octets))
	}
	return l
}

// TestPlaceKnown: P4.2, places that are worked out by hand.
func TestPlaceKnown(t *testing.T) {
	for _, c := range []struct {
		s       string
		t, want int
	}{
		{"", 1, 0}, {"", 2, 0}, {"", 1 << 16, 0}, {"\x7f\xff\xff\xff", 2, 1}, {"\x7f\xff\xff\xfe", 2, 0}, {"\x80", 2, 1}, {"\x7f", 2, 0},
		{"\x80", 256, 128}, {"\x01", 256, 1}, {"\xff\xff\xff\xff", 1, 0}, {"\xff\xff\xff\xff", 2, 1}, {"\xff\xff\xff\xff", 3, 2},
		{"\xff\xff\xff\xff", 1 << 16, 1<<16 - 1}, {"\x00\x00\xff\xff", 1 << 16, 1}, {"\x00\x00\xff\xfe", 1 << 16, 0}, {"\x00\x01", 1 << 16, 1},
		{"\x55\x55\x55\x55", 3, 1}, {"\x55\x55\x55\x54", 3, 0}, {"\x7f\xff\xff\xfe\xff", 2, 0}, // a fifth octet is not looked at yet
	} {
		d := rc.New(c.s)
		if got := d.Place(c.t); got != c.want {
			t.Errorf("Place(%d) of %x = %d, want %d", c.t, c.s, got, c.want)
		}
		if got := d.Place(c.t); got != c.want {
			t.Errorf("Place(%d) of %x, asked again, = %d, want %d", c.t, c.s, got, c.want)
		}
	}
}

// TestTakeHeld: P4.2, a Code that is not below the part's Range, or below 0, is held.
func TestTakeHeld(t *testing.T) {
	d := rc.New("\xff\xff\xff\xff\xff")
	d.Take(0, 1, 2) // Range is 7fffffff, Code one less
	if got := d.Place(1 << 16); got != 1<<16-1 {
		t.Errorf("a Code above its Range has the place %d, want the last", got)
	}
	d.Take(0, 1, 1<<16) // Range is 7fff, Code 7ffe, and then 7fff0000 and 7ffeff00: one octet is left, and then 0
	if got := d.Place(0x7fff); got != 0x7ffe {
		t.Errorf("a Code above its Range has the place %x, want 7ffe", got)
	}
	d = rc.New("\x00\x00\x00\x01\x80")
	d.Take(1, 2, 2)
	if got := d.Place(1 << 16); got != 0 {
		t.Errorf("a Code below 0 has the place %d, want 0", got)
	}
	d.Take(0, 1, 1<<16) // Range is 2^15, and then 2^31; Code is 0, and then 8000, of the octets 80 and 0
	if got := d.Place(1 << 16); got != 1 {
		t.Errorf("the octets behind have the place %d, want 1", got)
	}
}

// TestTakeAll: P4.2, of any octets, with parts that they say, and with parts that they do not, and beyond their end.
func TestTakeAll(t *testing.T) {
	for i, s := range someOctets() {
		for seed := range int64(6) {
			d, m := rc.New(s), newSlow(s)
			samePlaces(t, d, m)
			for n, p := range someParts(1000*int64(i)+seed, 120) {
				if (int64(n)+seed)%2 == 0 { // the part that it says
					at := m.place(p.t)
					p = part{at, at + 1, p.t}
				}
				d.Take(p.lo, p.hi, p.t)
				m.take(p)
				samePlaces(t, d, m)
			}
		}
	}
	for _, s := range someOctets() {
		for _, a := range allEdges() {
			d, m := rc.New(s), newSlow(s)
			for range 5 {
				d.Take(a.lo, a.hi, a.t)
				m.take(a)
				samePlaces(t, d, m)
			}
		}
	}
}

// TestTakeNoPart: P4.2, nothing is taken by what is no part, at first and between parts.
func TestTakeNoPart(t *testing.T) {
	for _, s := range []string{"", "\x7f\xff\xff\xff", "\xff\xff\xff\xff", strings.Repeat("splicer", 20)} {
		for _, bad := range noParts() {
			d, m := rc.New(s), newSlow(s)
			d.Take(bad.lo, bad.hi, bad.t)
			samePlaces(t, d, m)
			for _, p := range someParts(7, 10) {
				d.Take(p.lo, p.hi, p.t)
				m.take(p)
				d.Take(bad.lo, bad.hi, bad.t)
				samePlaces(t, d, m)
			}
		}
	}
}

// noWholes are what is not 1 to 2^16.
func noWholes() []int {
	return []int{0, -1, -2, -1 << 16, 1<<16 + 1, 1 << 17, 1 << 31, 1<<32 - 1, 1 << 32, 1<<32 + 1, math.MaxInt, math.MinInt, math.MinInt + 1}
}

// TestPlaceNoWhole: P4.2, Place of what is not 1 to 2^16.
func TestPlaceNoWhole(t *testing.T) {
	d, m := rc.New("\xff\xff\xff\xff and more"), newSlow("\xff\xff\xff\xff and more")
	for _, p := range someParts(8, 10) {
		for _, whole := range noWholes() {
			if got := d.Place(whole); got != 0 {
				t.Fatalf("Place(%d) = %d, want 0", whole, got)
			}
		}
		samePlaces(t, d, m)
		d.Take(p.lo, p.hi, p.t)
		m.take(p)
	}
}

// TestNoDecoder: P4.2, of a nil Decoder and of ones that New did not give.
func TestNoDecoder(t *testing.T) {
	for _, d := range []*rc.Decoder{nil, {}, new(rc.Decoder)} {
		for _, p := range append(allEdges(), noParts()...) {
			d.Take(p.lo, p.hi, p.t)
			for _, whole := range append(noWholes(), wholes...) {
				if got := d.Place(whole); got != 0 {
					t.Fatalf("Place(%d) of a decoder that New did not give = %d, want 0", whole, got)
				}
			}
		}
		if d != nil && *d != (rc.Decoder{}) {
			t.Fatal("a zero Decoder changed")
		}
	}
}

// TestDecoderCopied: P4.2, a decoder's copy, as a value, goes on by itself.
func TestDecoderCopied(t *testing.T) {
	s := strings.Repeat("splicer", 20)
	a := rc.New(s)
	b := *a
	for _, p := range someParts(11, 20) {
		a.Take(p.lo, p.hi, p.t)
	}
	samePlaces(t, &b, newSlow(s))
	samePlaces(t, rc.New(s), newSlow(s))
}
