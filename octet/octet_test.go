package octet_test

import (
	"encoding/binary"
	"math"
	"math/rand"
	"strings"
	"testing"

	"splicer/octet"
)

// octets are n's last k octets, the highest first, worked out by the library.
func octets(n, k int) string {
	return string(binary.BigEndian.AppendUint64(nil, uint64(n))[8-k:])
}

// numbers are the numbers of k octets at the edges, and some between.
func numbers(k int) []int {
	l := []int{0, 1, 1<<(8*k) - 1, 1<<(8*k) - 2, 1 << (8*k - 1), 1<<(8*k-1) - 1}
	for i := range k {
		l = append(l, 255<<(8*i), 1<<(8*i), 0x01020304050607>>(8*i)&(1<<(8*k)-1))
	}
	return l
}

func wrote(t *testing.T, w *octet.Writer, want string) {
	t.Helper()
	if got := w.String(); got != want {
		t.Fatalf("String() = %q, want %q", got, want)
	}
	if got := w.Len(); got != len(want) {
		t.Fatalf("Len() = %d, want %d", got, len(want))
	}
}

func stands(t *testing.T, r *octet.Reader, at, left int) {
	t.Helper()
	if r.Bad() || r.At() != at || r.Left() != left {
		t.Fatalf("Bad() = %t, At() = %d, Left() = %d, want false, %d, %d", r.Bad(), r.At(), r.Left(), at, left)
	}
}

// spoilt: r is bad, and stays so whatever it is asked.
func spoilt(t *testing.T, r *octet.Reader) {
	t.Helper()
	told := func() {
		t.Helper()
		if !r.Bad() || r.At() != 0 || r.Left() != 0 {
			t.Fatalf("Bad() = %t, At() = %d, Left() = %d, want true, 0, 0", r.Bad(), r.At(), r.Left())
		}
	}
	told()
	for _, k := range []int{1, 2, 7, 0, 8, -1, math.MinInt, math.MaxInt} {
		if n := r.Num(k); n != 0 {
			t.Fatalf("Num(%d) of a bad Reader = %d, want 0", k, n)
		}
		told()
		if s := r.Text(k); s != "" {
			t.Fatalf("Text(%d) of a bad Reader = %q, want no text", k, s)
		}
		told()
	}
}

func TestExamples(t *testing.T) {
	w := &octet.Writer{}
	w.Num(258, 2)
	wrote(t, w, "\x01\x02")
}

// TestWriterKnown: P2.1, ordinary numbers and texts, one behind the other.
func TestWriterKnown(t *testing.T) {
	w := &octet.Writer{}
	wrote(t, w, "")
	w.Num(0, 1)
	wrote(t, w, "\x00")
	w.Num(255, 1)
	wrote(t, w, "\x00\xff")
	w.Text("ab")
	wrote(t, w, "\x00\xffab")
	w.Text("")
	wrote(t, w, "\x00\xffab")
	w.Num(5, 3)
	wrote(t, w, "\x00\xffab\x00\x00\x05")
	w.Text("\x00\xff\u00e9")
	wrote(t, w, "\x00\xffab\x00\x00\x05\x00\xff\xc3\xa9")
	w.Num(0x01020304050607, 7)
	wrote(t, w, "\x00\xffab\x00\x00\x05\x00\xff\xc3\xa9\x01\x02\x03\x04\x05\x06\x07")
}

// TestWriterNumbers: P2.1, numbers at the edges of each size.
func TestWriterNumbers(t *testing.T) {
	for k := 1; k <= 7; k++ {
		for _, n := range numbers(k) {
			w := &octet.Writer{}
			w.Num(n, k)
			wrote(t, w, octets(n, k))
			w.Num(n, k)
			wrote(t, w, octets(n, k)+octets(n, k))
		}
	}
}

// TestWriterRefuses: P2.1, sizes that are none, and numbers that need more octets than they are given.
func TestWriterRefuses(t *testing.T) {
	for _, c := range []struct{ n, k int }{
		{0, 0}, {0, 8}, {1, 0}, {1, 8}, {1, -1}, {1, 9}, {1, 64}, {0, math.MaxInt}, {0, math.MinInt},
		{1 << 56, 8}, {math.MaxInt, 8}, {math.MaxInt, 0},
		{-1, 0}, {-1, 8},
	} {
		w := &octet.Writer{}
		w.Num(c.n, c.k)
		wrote(t, w, "")
		w.Text("x")
		w.Num(c.n, c.k)
		wrote(t, w, "x")
	}
	for k := 1; k <= 7; k++ {
		for _, n := range []int{1 << (8 * k), 1<<(8*k) + 1, 1<<(8*k+1) - 1, math.MaxInt, -1, -255, -256, -1 << (8 * k), -1<<(8*k) + 1, math.MinInt, math.MinInt + 1} {
			w := &octet.Writer{}
			w.Num(n, k)
			wrote(t, w, "")
			w.Text("x")
			w.Num(n, k)
			wrote(t, w, "x")
			w.Num(7, 1)
			wrote(t, w, "x\x07")
		}
	}
}

func TestWriterNil(t *testing.T) {
	var w *octet.Writer
	wrote(t, w, "")
	w.Num(1, 1)
	w.Num(1, 8)
	w.Text("ab")
	w.Text("")
	wrote(t, w, "")
}

// TestWriterZero: P2.1, a Writer that is a value, and not made by a literal.
func TestWriterZero(t *testing.T) {
	var w octet.Writer
	wrote(t, &w, "")
	w.Text("")
	wrote(t, &w, "")
	w.Num(1, 2)
	wrote(t, &w, "\x00\x01")
	wrote(t, new(octet.Writer), "")
}

// TestWriterCopied: P2.1, a Writer that was copied has written what it had, and goes on apart from the other.
func TestWriterCopied(t *testing.T) {
	var a octet.Writer
	z := a
	a.Text("ab")
	b := a
	b.Num(1, 1)
	a.Num(2, 1)
	c := a
	a.Text("longer than all of the others, so that it needs more room")
	d := b
	d.Num(3, 1)
	b.Num(4, 1)
	z.Num(5, 1)
	wrote(t, &a, "ab\x02longer than all of the others, so that it needs more room")
	wrote(t, &b, "ab\x01\x04")
	wrote(t, &c, "ab\x02")
	wrote(t, &d, "ab\x01\x03")
	wrote(t, &z, "\x05")
	long := a
	a = c
	a.Text("again")
	wrote(t, &a, "ab\x02again")
	wrote(t, &c, "ab\x02")
	wrote(t, &long, "ab\x02longer than all of the others, so that it needs more room")
}

// TestWriterKeepsTold: what String told stays as it was, whatever is written behind it.
func TestWriterKeepsTold(t *testing.T) {
	w := &octet.Writer{}
	want := ""
	for i := range 300 {
		s := w.String()
		w.Num(i%256, 1)
		if s != want {
			t.Fatalf("what was told became %q, want %q", s, want)
		}
		want += string([]byte{byte(i)})
	}
	wrote(t, w, want)
}

// TestReaderKnown: P2.2, ordinary numbers and texts, one behind the other.
func TestReaderKnown(t *testing.T) {
	r := octet.New("\x01\x02ab\x00\xff\x01\x02\x03\x04\x05\x06\x07")
	stands(t, r, 0, 13)
	if n := r.Num(2); n != 258 {
		t.Errorf("Num(2) = %d, want 258", n)
	}
	stands(t, r, 2, 11)
	if s := r.Text(2); s != "ab" {
		t.Errorf("Text(2) = %q, want ab", s)
	}
	stands(t, r, 4, 9)
	if s := r.Text(0); s != "" {
		t.Errorf("Text(0) = %q, want no text", s)
	}
	stands(t, r, 4, 9)
	if n := r.Num(1); n != 0 {
		t.Errorf("Num(1) = %d, want 0", n)
	}
	stands(t, r, 5, 8)
	if n := r.Num(1); n != 255 {
		t.Errorf("Num(1) = %d, want 255", n)
	}
	stands(t, r, 6, 7)
	if n := r.Num(7); n != 0x01020304050607 {
		t.Errorf("Num(7) = %#x, want 0x01020304050607", n)
	}
	stands(t, r, 13, 0)
	if s := r.Text(0); s != "" {
		t.Errorf("Text(0) at the end = %q, want no text", s)
	}
	stands(t, r, 13, 0)
}

// TestReaderNumbers: P2.2, just as many octets as are left, one more, and one fewer.
func TestReaderNumbers(t *testing.T) {
	for k := 1; k <= 7; k++ {
		for _, n := range numbers(k) {
			s := octets(n, k)
			r := octet.New(s)
			if got := r.Num(k); got != n {
				t.Fatalf("Num(%d) of %q = %d, want %d", k, s, got, n)
			}
			stands(t, r, k, 0)

			r = octet.New(s[1:])
			stands(t, r, 0, k-1)
			if got := r.Num(k); got != 0 {
				t.Fatalf("Num(%d) of %q = %d, want 0", k, s[1:], got)
			}
			spoilt(t, r)

			r = octet.New(s + "x")
			if got := r.Num(k); got != n {
				t.Fatalf("Num(%d) of %q = %d, want %d", k, s+"x", got, n)
			}
			stands(t, r, k, 1)
		}
	}
}

// TestReaderTexts: P2.2, of each length that there is, and of one more.
func TestReaderTexts(t *testing.T) {
	all := "some octets, \x00 and \xff among them"
	for from := 0; from <= len(all); from++ {
		for n := 0; from+n <= len(all); n++ {
			r := octet.New(all)
			if s := r.Text(from); s != all[:from] {
				t.Fatalf("Text(%d) = %q, want %q", from, s, all[:from])
			}
			if s := r.Text(n); s != all[from:from+n] {
				t.Fatalf("Text(%d) at %d = %q, want %q", n, from, s, all[from:from+n])
			}
			stands(t, r, from+n, len(all)-from-n)
			if s := r.Text(len(all) - from - n + 1); s != "" {
				t.Fatalf("Text of one more than is left = %q, want no text", s)
			}
			spoilt(t, r)
		}
	}
}

// TestReaderRefusesSizes: P2.2, sizes that are none spoil a Reader of which enough is left.
func TestReaderRefusesSizes(t *testing.T) {
	for _, k := range []int{0, 8, 9, -1, -7, 64, math.MaxInt, math.MinInt} {
		for _, from := range []int{0, 1, 20} {
			r := octet.New("twenty octets, or so")
			r.Text(from)
			stands(t, r, from, 20-from)
			if n := r.Num(k); n != 0 {
				t.Fatalf("Num(%d) = %d, want 0", k, n)
			}
			spoilt(t, r)
		}
	}
	for _, n := range []int{-1, -2, -20, math.MinInt, 21, 22, math.MaxInt, math.MaxInt - 1} {
		for _, from := range []int{0, 1, 20} {
			r := octet.New("twenty octets, or so")
			r.Text(from)
			stands(t, r, from, 20-from)
			if s := r.Text(n); s != "" {
				t.Fatalf("Text(%d) = %q, want no text", n, s)
			}
			spoilt(t, r)
		}
	}
}

// TestReaderNothingLeft: P2.2, of no octets, and behind the last one.
func TestReaderNothingLeft(t *testing.T) {
	for _, all := range []string{"", "ab"} {
		for k := 1; k <= 7; k++ {
			r := octet.New(all)
			r.Text(len(all))
			stands(t, r, len(all), 0)
			if s := r.Text(0); s != "" {
				t.Fatalf("Text(0) = %q, want no text", s)
			}
			stands(t, r, len(all), 0)
			if n := r.Num(k); n != 0 {
				t.Fatalf("Num(%d) = %d, want 0", k, n)
			}
			spoilt(t, r)
		}
		r := octet.New(all)
		r.Text(len(all))
		if s := r.Text(1); s != "" {
			t.Fatalf("Text(1) = %q, want no text", s)
		}
		spoilt(t, r)
	}
}

// TestReaderNotGiven: P2.2, a nil Reader, and those that New did not give, whichever call is the first.
func TestReaderNotGiven(t *testing.T) {
	var value octet.Reader
	for _, r := range []*octet.Reader{nil, {}, new(octet.Reader), &value} {
		spoilt(t, r)
	}
	for _, k := range []int{-1, 0, 1, 7, 8} {
		for _, r := range []*octet.Reader{nil, {}} {
			if n := r.Num(k); n != 0 {
				t.Errorf("Num(%d) = %d, want 0", k, n)
			}
			spoilt(t, r)
		}
		for _, r := range []*octet.Reader{nil, {}} {
			if s := r.Text(k); s != "" {
				t.Errorf("Text(%d) = %q, want no text", k, s)
			}
			spoilt(t, r)
		}
	}
}

// TestReadersApart: two Readers of one text stand each where it stands; one that is bad does not spoil the other.
func TestReadersApart(t *testing.T) {
	a, b := octet.New("abcd"), octet.New("abcd")
	a.Text(3)
	b.Num(0)
	stands(t, a, 3, 1)
	spoilt(t, b)
	c := *a
	a.Text(2)
	spoilt(t, a)
	stands(t, &c, 3, 1)
	stands(t, octet.New("abcd"), 0, 4)
}

// item is something that is written, and looked for again.
type item struct {
	text string
	n, k int // a number, if k is not 0
}

func items(rnd *rand.Rand) []item {
	l := make([]item, rnd.Intn(40))
	for i := range l {
		if k := rnd.Intn(8); k > 0 {
			l[i] = item{n: rnd.Int() & (1<<(8*k) - 1), k: k}
			if edge := numbers(k); rnd.Intn(2) == 0 {
				l[i].n = edge[rnd.Intn(len(edge))]
			}
			continue
		}
		s := make([]byte, rnd.Intn(300))
		rnd.Read(s)
		l[i].text = string(s)
	}
	return l
}

// TestReadAgain: P2.3, of lists of numbers and texts; what a Writer refuses among them leaves no trace.
func TestReadAgain(t *testing.T) {
	rnd := rand.New(rand.NewSource(2))
	for range 500 {
		l := items(rnd)
		w := &octet.Writer{}
		for _, x := range l {
			if x.k > 0 {
				w.Num(x.n, x.k)
			} else {
				w.Text(x.text)
			}
			w.Num(-1, 3)
			w.Num(1<<24, 3)
		}
		r := octet.New(w.String())
		at := 0
		for _, x := range l {
			stands(t, r, at, w.Len()-at)
			if x.k > 0 {
				if n := r.Num(x.k); n != x.n {
					t.Fatalf("Num(%d) = %d, want %d", x.k, n, x.n)
				}
			} else if s := r.Text(len(x.text)); s != x.text {
				t.Fatalf("Text(%d) = %q, want %q", len(x.text), s, x.text)
			}
			at += x.k + len(x.text)
		}
		stands(t, r, at, 0)
	}
}

// TestReadAgainSmall: P2.3, of every number of one octet, and of two.
func TestReadAgainSmall(t *testing.T) {
	for k, end := range map[int]int{1: 1 << 8, 2: 1 << 16} {
		w := &octet.Writer{}
		for n := range end {
			w.Num(n, k)
		}
		if w.Len() != end*k {
			t.Fatalf("Len() = %d, want %d", w.Len(), end*k)
		}
		r := octet.New(w.String())
		for n := range end {
			if got := r.Num(k); got != n {
				t.Fatalf("Num(%d) = %d, want %d", k, got, n)
			}
		}
		stands(t, r, end*k, 0)
	}
}

// TestMany: a Writer that is told very much, bit by bit, and asked for it ever again, still ends soon.
func TestMany(t *testing.T) {
	w := &octet.Writer{}
	const many = 1 << 20
	for i := range many {
		w.Num('a', 1)
		if w.Len() != i+1 || len(w.String()) != i+1 {
			t.Fatalf("Len() = %d, want %d", w.Len(), i+1)
		}
	}
	if w.String() != strings.Repeat("a", many) {
		t.Fatal("what was written is not what String tells")
	}
}
