package crc_test

import (
	"hash/crc32"
	"math/rand"
	"strings"
	"testing"

	"splicer/crc"
)

// slow is More without a table, bit by bit: eight steps for each octet that is put on the lowest bits.
func slow(sum uint32, s string) uint32 {
	n := ^sum
	for _, o := range []byte(s) {
		n ^= uint32(o)
		for range 8 {
			low := n & 1
			n >>= 1
			if low == 1 {
				n ^= 0xedb88320
			}
		}
	}
	return ^n
}

// octets are all the octets from 0 to 255, in order.
func octets() string {
	var l [256]byte
	for i := range l {
		l[i] = byte(i)
	}
	return string(l[:])
}

// noise is a text of n octets, the same each time.
func noise(n int) string {
	r := rand.New(rand.NewSource(int64(n)))
	l := make([]byte, n)
	for i := range l {
		l[i] = byte(r.Intn(256))
	}
	return string(l)
}

// texts are texts at the edges, and ordinary ones.
func texts() []string {
	l := []string{
		"", "a", "123456789", "splicer", "The quick brown fox jumps over the lazy dog", "h\u00e9, \u2192 \U0001d11e",
		"\x00", "\xff", "\x00\x00", "\xff\xff", "\x00\xff", "\xff\x00", "\x00\x00\x00\x00", "\xff\xff\xff\xff",
		"\x80", "\x01", "\x7f", "\xc3\x28 is no rune", "\x00123456789", "123456789\x00",
		strings.Repeat("\x00", 100), strings.Repeat("\xff", 100), octets(), noise(33), noise(1000),
	}
	for o := range 256 {
		l = append(l, string([]byte{byte(o)}))
	}
	return l
}

// sums are sums at the edges, and ordinary ones.
func sums() []uint32 {
	l := []uint32{0, 1, 2, 255, 256, 0xffffffff, 0xfffffffe, 0xcbf43926, 0xedb88320, 0x12345678}
	for n := range 32 {
		l = append(l, 1<<n, ^uint32(1<<n))
	}
	return l
}

func TestExample(t *testing.T) {
	if got := crc.Make().Sum("123456789"); got != 0xcbf43926 {
		t.Errorf("Sum(123456789) = %08x, want cbf43926", got)
	}
}

// TestTableKnown: P3.1, entries that are written down. That of 128 is the step's number itself: its one bit leaves last.
func TestTableKnown(t *testing.T) {
	table := crc.Make()
	if table == nil {
		t.Fatal("Make() = nil")
	}
	for _, c := range []struct {
		octet int
		want  uint32
	}{
		{0, 0}, {1, 0x77073096}, {2, 0xee0e612c}, {3, 0x990951ba}, {16, 0x1db71064}, {64, 0x76dc4190},
		{127, 0xc0ba6cad}, {128, 0xedb88320}, {129, 0x9abfb3b6}, {254, 0x5a05df1b}, {255, 0x2d02ef8d},
	} {
		if got := table[c.octet]; got != c.want {
			t.Errorf("the entry of %d = %08x, want %08x", c.octet, got, c.want)
		}
	}
}

// TestTableAll: P3.1, every entry, against the library's table.
func TestTableAll(t *testing.T) {
	if got := crc.Make(); *got != crc.Table(*crc32.IEEETable) {
		t.Errorf("Make() = %08x", *got)
	}
}

// TestTableNew: each table that is made is its own, and what is summed leaves it as it was.
func TestTableNew(t *testing.T) {
	a, b := crc.Make(), crc.Make()
	for i := range a {
		a[i] = 7
	}
	if *b != *crc.Make() || *b == *a {
		t.Fatal("a table changed with another one")
	}
	kept := *b
	b.Sum(octets())
	b.More(5, octets())
	if *b != kept {
		t.Fatal("a table changed when it summed")
	}
}

// TestSumKnown: P3.1, sums that are written down.
func TestSumKnown(t *testing.T) {
	table := crc.Make()
	for _, c := range []struct {
		s    string
		want uint32
	}{
		{"", 0}, {"a", 0xe8b7be43}, {"abc", 0x352441c2}, {"\x00", 0xd202ef8d}, {"\xff", 0xff000000},
		{"\x00\x00\x00\x00", 0x2144df1c}, {"\xff\xff\xff\xff", 0xffffffff},
		{"The quick brown fox jumps over the lazy dog", 0x414fa339},
	} {
		if got := table.Sum(c.s); got != c.want {
			t.Errorf("Sum(%q) = %08x, want %08x", c.s, got, c.want)
		}
	}
}

// TestSumAll: P3.1, against the words done bit by bit, and against the library.
func TestSumAll(t *testing.T) {
	table := crc.Make()
	for _, s := range append(texts(), noise(1<<20)) {
		got := table.Sum(s)
		if want := slow(0, s); got != want {
			t.Errorf("Sum(%.40q..) of %d octets = %08x, want %08x", s, len(s), got, want)
		}
		if want := crc32.ChecksumIEEE([]byte(s)); got != want {
			t.Errorf("Sum(%.40q..) of %d octets = %08x, but the library says %08x", s, len(s), got, want)
		}
		if more := table.More(0, s); more != got {
			t.Errorf("More(0, %.40q..) = %08x, want Sum's %08x", s, more, got)
		}
	}
}

// TestMoreAll: P3.1, behind sums of all kinds.
func TestMoreAll(t *testing.T) {
	table := crc.Make()
	for _, sum := range sums() {
		for _, s := range texts() {
			got := table.More(sum, s)
			if want := slow(sum, s); got != want {
				t.Fatalf("More(%08x, %.40q..) = %08x, want %08x", sum, s, got, want)
			}
			if want := crc32.Update(sum, crc32.IEEETable, []byte(s)); got != want {
				t.Fatalf("More(%08x, %.40q..) = %08x, but the library says %08x", sum, s, got, want)
			}
		}
		if got := table.More(sum, ""); got != sum {
			t.Fatalf("More(%08x, nothing) = %08x, want the sum as it was", sum, got)
		}
	}
}

// TestNil: P3.1, of a nil Table.
func TestNil(t *testing.T) {
	var table *crc.Table
	for _, s := range texts() {
		if got := table.Sum(s); got != 0 {
			t.Fatalf("Sum(%.40q..) of a nil Table = %08x, want 0", s, got)
		}
		for _, sum := range sums() {
			if got := table.More(sum, s); got != 0 {
				t.Fatalf("More(%08x, %.40q..) of a nil Table = %08x, want 0", sum, s, got)
			}
		}
	}
}

// TestParted: P3.2, texts in two parts, at every place, behind sums of all kinds.
func TestParted(t *testing.T) {
	table := crc.Make()
	for _, s := range texts() {
		whole := table.Sum(s)
		for at := range len(s) + 1 {
			if got := table.More(table.Sum(s[:at]), s[at:]); got != whole {
				t.Fatalf("%.40q.. parted at %d has the sum %08x, want %08x", s, at, got, whole)
			}
		}
	}
	for _, sum := range sums() {
		s := noise(33)
		whole := table.More(sum, s)
		for at := range len(s) + 1 {
			if got := table.More(table.More(sum, s[:at]), s[at:]); got != whole {
				t.Fatalf("behind %08x, a text parted at %d has the sum %08x, want %08x", sum, at, got, whole)
			}
		}
	}
}

// TestManyParts: P3.2, every way to part a short text, and a long one in parts of one size, empty ones between.
func TestManyParts(t *testing.T) {
	table := crc.Make()
	short := "\x00123\xff5678"
	for cuts := range 1 << (len(short) - 1) {
		sum, from := uint32(0), 0
		for at := 1; at <= len(short); at++ {
			if at == len(short) || cuts>>(at-1)&1 == 1 {
				sum, from = table.More(sum, short[from:at]), at
			}
		}
		if want := table.Sum(short); sum != want {
			t.Fatalf("%q parted by %b has the sum %08x, want %08x", short, cuts, sum, want)
		}
	}
	long := noise(1000)
	for size := 1; size <= len(long); size++ {
		sum := uint32(0)
		for from := 0; from < len(long); from += size {
			sum = table.More(sum, "")
			sum = table.More(sum, long[from:min(from+size, len(long))])
		}
		if want := table.Sum(long); sum != want {
			t.Fatalf("a text in parts of %d octets has the sum %08x, want %08x", size, sum, want)
		}
	}
}

// turned is s with those bits turned that mask has, its lowest one at the bit from: bit 0 is the first octet's lowest.
func turned(s string, from int, mask uint32) string {
	l := []byte(s)
	for i := range 32 {
		if mask>>i&1 == 1 {
			at := from + i
			l[at/8] ^= 1 << (at % 8)
		}
	}
	return string(l)
}

// other: s has another sum when it is turned so; masks that reach behind its end are left out.
func other(t *testing.T, table *crc.Table, s string, from int, mask uint32) {
	t.Helper()
	if mask == 0 || uint64(mask)>>(8*len(s)-from) != 0 {
		return
	}
	if table.Sum(s) == table.Sum(turned(s, from, mask)) {
		t.Fatalf("%q has its sum still when %b is turned at bit %d", s, mask, from)
	}
}

// bursts are masks of neighbouring bits as long as each length up to 32, with all between turned, and with none.
func bursts() []uint32 {
	l := []uint32{1, 0xedb88320, 0x04c11db7, 0xdb710641, 0x80000001, 0xaaaaaaaa, 0x55555555}
	for n := 1; n <= 32; n++ {
		l = append(l, uint32(1<<n-1), 1<<(n-1)|1, 1<<(n-1))
	}
	return l
}

// TestTurned: P3.3, one bit, neighbouring bits, and bits across several octets, at every place.
func TestTurned(t *testing.T) {
	table := crc.Make()
	for _, s := range []string{"\x00", "\xff", "a", "ab", "\x00\x00\x00", "1234", "12345", "123456789", octets(), noise(100)} {
		for from := range 8 * len(s) {
			for _, mask := range bursts() {
				other(t, table, s, from, mask)
			}
		}
	}
}

// TestTurnedSmall: P3.3, all that can be turned in 16 neighbouring bits, at each bit of an octet.
func TestTurnedSmall(t *testing.T) {
	table := crc.Make()
	for from := range 8 {
		for mask := range uint32(1 << 16) {
			other(t, table, "\x001\xff", from, mask)
		}
	}
}

// TestTurnedAny: P3.3, bits of 32 that are turned by chance, the same each time.
func TestTurnedAny(t *testing.T) {
	table := crc.Make()
	r := rand.New(rand.NewSource(3))
	for n := range 20000 {
		s := noise(4 + n%60)
		other(t, table, s, r.Intn(8*len(s)-31), r.Uint32())
	}
}
