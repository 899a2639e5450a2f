package frame_test

import (
	"fmt"
	"math"
	"math/rand"
	"reflect"
	"slices"
	"testing"

	"splicer/alloc"
	"splicer/api"
	"splicer/frame"
	"splicer/lists"
)

const (
	least = math.MinInt
	most  = math.MaxInt
	best  = 10 // the greatest quality
	loud  = 23 // the greatest Coarse
	full  = 24 // the most pulses of a band
)

// widths are the chapters' words of a channel's bands: four of 2, four of 4, five of 8 numbers.
func widths() []int { return []int{2, 2, 2, 2, 4, 4, 4, 4, 8, 8, 8, 8, 8} }

// band: one of a Coarse, a Fine and some pulses.
func band(coarse, fine int, pulses ...int) api.Band {
	return api.Band{Coarse: coarse, Fine: fine, Pulses: pulses}
}

// channel: one of some bands.
func channel(l ...api.Band) api.Chan { return api.Chan{Bands: l} }

// chans: a frame of some channels.
func chans(l ...api.Chan) api.Frame { return api.Frame{Chans: l} }

// pulses: w numbers of which the first is k, and all others 0.
func pulses(k, w int) []int { return lists.Filled(w, lists.Single(0, k)) }

// spread: w drawn numbers that are k from 0 in all.
func spread(rnd *rand.Rand, k, w int) []int {
	x := make([]int, w)
	for range k {
		x[rnd.Intn(w)]++
	}
	return lists.Filled(w, func(i int) int { return lists.Either(rnd.Intn, x[i], -x[i])(i) })
}

// drawn: a frame that may be, of n channels and of quality q, each of whose bands is as loud as coarse tells.
func drawn(rnd *rand.Rand, n, q int, coarse func(int) int) api.Frame {
	f := api.Frame{Short: rnd.Intn(2) == 0, Side: n == 2 && rnd.Intn(2) == 0, Intra: rnd.Intn(2) == 0, Gain: rnd.Intn(97) - 64}
	for range n {
		var c api.Chan
		for b, w := range widths() {
			x := api.Band{Coarse: coarse(b)}
			if x.Coarse > 0 {
				x.Fine = rnd.Intn(4)
			}
			x.Pulses = spread(rnd, alloc.Band(q, x.Coarse, w), w)
			c.Bands = append(c.Bands, x)
		}
		f.Chans = append(f.Chans, c)
	}
	return f
}

// fit: frames that may be, with how many channels they have and of which quality they are.
type fit struct {
	f    api.Frame
	n, q int
}

// fits: some such of 1 and 2 channels and of each quality: as loud as they like, as their pulses begin, with silent bands,
// silent, and as loud as may be.
func fits(seed int64, some int) []fit {
	rnd := rand.New(rand.NewSource(seed))
	var l []fit
	for q := range best + 1 {
		for n := 1; n <= 2; n++ {
			for range some {
				for _, coarse := range []func(int) int{
					lists.Drawn(rnd.Intn, 0, loud), lists.Drawn(rnd.Intn, 0, 10), lists.Either(rnd.Intn, 0, loud), lists.Same(0), lists.Same(loud),
				} {
					l = append(l, fit{drawn(rnd, n, q, coarse), n, q})
				}
			}
		}
	}
	return l
}

// byHand: a frame that may be, of one channel and of quality 5, worked out by hand.
func byHand() api.Frame {
	return chans(channel(
		band(0, 0, 0, 0), band(3, 1, 0, 0), band(4, 0, 0, -1), band(23, 3, -5, 3),
		band(8, 2, 3, -3, 4, 0), band(11, 0, 16, 0, 0, 0), band(5, 1, 1, 1, 1, -1), band(10, 3, 0, 0, 0, -14),
		band(4, 2, 1, 0, 0, 1, 0, 0, 0, 1), band(10, 0, 3, 3, 3, -3, -3, -3, -2, -1), band(11, 1, 0, 24, 0, 0, 0, 0, 0, 0),
		band(1, 3, 0, 0, 0, 0, 0, 0, 0, 0), band(23, 0, 3, -3, 3, -3, 3, -3, 3, -3),
	))
}

// odd: frames that may not be, of other counts of channels, bands and pulses, with numbers beyond the bounds.
func odd() []api.Frame {
	none, bare := channel(), channel(make([]api.Band, 13)...)
	low, high := band(-1, 4, least), band(most, -1)
	one := channel(low, high)
	gain := func(gain int) api.Frame { return api.Frame{Gain: gain, Chans: []api.Chan{one}} }
	return []api.Frame{
		{}, {Intra: true}, chans(none), chans(none, none), chans(none, one), chans(one, none), chans(bare), chans(bare, one, none),
		gain(most), gain(least), chans(channel(low), channel(high)), chans(channel(low), channel(low)), chans(one, one, one),
		{Side: true, Chans: []api.Chan{one, one, one, one}}, {Short: true, Chans: make([]api.Chan, 100)},
	}
}

// frames: some that may be, and some that may not.
func frames() []api.Frame {
	l := append(odd(), byHand(), frame.Silent(1), frame.Silent(2))
	for _, x := range fits(20, 1) {
		l = append(l, x.f)
	}
	return l
}

// clone: f in memory of its own.
func clone(f api.Frame) api.Frame {
	f.Chans = slices.Clone(f.Chans)
	for i, c := range f.Chans {
		f.Chans[i].Bands = slices.Clone(c.Bands)
		for j, b := range c.Bands {
			f.Chans[i].Bands[j].Pulses = slices.Clone(b.Pulses)
		}
	}
	return f
}

// turned: f in memory of its own, to which something is done.
func turned(f api.Frame, do func(*api.Frame)) api.Frame {
	f = clone(f)
	do(&f)
	return f
}

// withBand: f with x as a band of a channel.
func withBand(f api.Frame, c, b int, x api.Band) api.Frame {
	return turned(f, func(f *api.Frame) { f.Chans[c].Bands[b] = x })
}

// withBands: f with l as the bands of a channel.
func withBands(f api.Frame, c int, l []api.Band) api.Frame {
	return turned(f, func(f *api.Frame) { f.Chans[c].Bands = l })
}

// withChans: f with l as its channels.
func withChans(f api.Frame, l []api.Chan) api.Frame {
	return turned(f, func(f *api.Frame) { f.Chans = l })
}

// told: all that is told of a frame. Lists of nothing, and no lists, are told alike.
func told(f api.Frame) string { return fmt.Sprintf("%+v", f) }

// toldAlike: all but for Gain and Intra.
func toldAlike(f api.Frame) string {
	f.Gain, f.Intra = 0, false
	return told(f)
}

func checkFit(t *testing.T, f api.Frame, n, q int, want bool) {
	t.Helper()
	if got := frame.Fit(f, n, q); got != want {
		t.Fatalf("Fit(%s, %d, %d) = %t, want %t", told(f), n, q, got, want)
	}
}

func checkCompared(t *testing.T, a, b api.Frame, same, alike bool) {
	t.Helper()
	for _, p := range [][2]api.Frame{{a, b}, {b, a}} {
		if got := frame.Same(p[0], p[1]); got != same {
			t.Fatalf("Same(%s, %s) = %t, want %t", told(p[0]), told(p[1]), got, same)
		}
		if got := frame.Alike(p[0], p[1]); got != alike {
			t.Fatalf("Alike(%s, %s) = %t, want %t", told(p[0]), told(p[1]), got, alike)
		}
	}
}

func checkRows(t *testing.T, f api.Frame, want [][]int) {
	t.Helper()
	if got := frame.Rows(f); !slices.EqualFunc(got, want, slices.Equal) {
		t.Fatalf("Rows(%s) = %v, want %v", told(f), got, want)
	}
}

func checkTold(t *testing.T, what string, got, want api.Frame) {
	t.Helper()
	if told(got) != told(want) {
		t.Fatalf("%s: %s, want %s", what, told(got), told(want))
	}
}

// TestExamples: the chapter's, and those of its stage.
func TestExamples(t *testing.T) {
	f := frame.Silent(1)
	checkFit(t, f, 1, 5, true)
	checkFit(t, f, 2, 5, false)
	checkRows(t, f, [][]int{make([]int, 13)})
	checkCompared(t, f, frame.Copy(f), true, true)
}

// TestFitByHand: P20.1, one that may be, and what may not be in its place.
func TestFitByHand(t *testing.T) {
	checkFit(t, byHand(), 1, 5, true)
	for q := range best + 1 {
		checkFit(t, byHand(), 1, q, q == 5)
	}
	for b, x := range []api.Band{
		band(0, 1, 0, 0), band(3, 1, 0, 1), band(4, 0, 1, -1), band(23, 3, -5, 2),
		band(8, 2, 3, -3, 3, 0), band(11, 0, 16, 0, 0), band(5, 1, 1, 1, 1, -1, 0), band(10, 4, 0, 0, 0, -14),
		band(4, -1, 1, 0, 0, 1, 0, 0, 0, 1), band(24, 0, 3, 3, 3, -3, -3, -3, -2, -1), band(11, 1, 0, 24, 0, 0, 0, 0, 0, 1),
		band(-1, 3, 0, 0, 0, 0, 0, 0, 0, 0), band(23, 0, 8, -8, 8),
	} {
		checkFit(t, withBand(byHand(), 0, b, x), 1, 5, false)
	}
}

// TestFit: P20.1, with as many channels as there are, and of each quality of which they have as many pulses; with no other
// channels, and of no other quality.
func TestFit(t *testing.T) {
	for _, x := range fits(1, 8) {
		checkFit(t, x.f, x.n, x.q, true)
		for q := range best + 1 {
			checkFit(t, x.f, x.n, q, asMany(x.f, x.q, q))
		}
		for _, n := range append(lists.Beyond(), -2, -1, 0, 3, 4, 3-x.n) {
			checkFit(t, x.f, n, x.q, false)
		}
		for _, q := range append(lists.Beyond(), -2, -1, 11, 12) {
			checkFit(t, x.f, x.n, q, false)
		}
	}
}

// asMany: does each of f's bands have as many pulses, whether it is of quality p or q?
func asMany(f api.Frame, p, q int) bool {
	for _, c := range f.Chans {
		for b, w := range widths() {
			if coarse := c.Bands[b].Coarse; alloc.Band(p, coarse, w) != alloc.Band(q, coarse, w) {
				return false
			}
		}
	}
	return true
}

// TestFitWords: P20.1, Short and Intra as they like, Side with two channels alone, and each Gain.
func TestFitWords(t *testing.T) {
	for _, x := range fits(2, 1) {
		for k := range 8 {
			f := x.f
			f.Short, f.Side, f.Intra = k&1 != 0, k&2 != 0, k&4 != 0
			checkFit(t, f, x.n, x.q, x.n == 2 || !f.Side)
			checkFit(t, f, 3-x.n, x.q, false)
		}
		for gain := -64; gain <= 32; gain++ {
			f := x.f
			f.Gain = gain
			checkFit(t, f, x.n, x.q, true)
		}
		for _, gain := range append(lists.Beyond(), -66, -65, 33, 34, 64, -128, 1<<16) {
			f := x.f
			f.Gain = gain
			checkFit(t, f, x.n, x.q, false)
		}
	}
}

// TestNoFitChans: P20.1, too few or too many channels, whichever are told of.
func TestNoFitChans(t *testing.T) {
	for _, x := range fits(3, 1) {
		chans := clone(x.f).Chans
		for _, l := range [][]api.Chan{
			nil, chans[1:], chans[:x.n-1], append(clone(x.f).Chans, chans[0]), append(clone(x.f).Chans, api.Chan{}), slices.Repeat(chans, 3), make([]api.Chan, x.n),
		} {
			checkFit(t, withChans(x.f, l), x.n, x.q, false)
			for _, n := range []int{-1, 0, 3, 6} {
				checkFit(t, withChans(x.f, l), n, x.q, false)
			}
		}
	}
}

// TestNoFitBands: P20.1, a channel of none, of too few, and of too many bands, and of such as are not as wide.
func TestNoFitBands(t *testing.T) {
	for _, x := range fits(4, 1) {
		for c := range x.n {
			l := x.f.Chans[c].Bands
			for _, bands := range [][]api.Band{
				nil, {}, l[:1], l[:12], l[1:], slices.Concat(l, l[12:]), slices.Concat(l, []api.Band{{}}), slices.Concat(l[:1], l), slices.Concat(l, l),
				make([]api.Band, 12), make([]api.Band, 13), make([]api.Band, 14), slices.Concat(l[4:8], l[:4], l[8:]), slices.Concat(l[8:], l[:8]),
			} {
				checkFit(t, withBands(x.f, c, bands), x.n, x.q, false)
			}
		}
	}
}

// TestNoFitBand: P20.1, at each place of each channel a band that may not be there.
func TestNoFitBand(t *testing.T) {
	for _, x := range fits(5, 1) {
		for c := range x.n {
			for b, w := range widths() {
				f, band := clone(x.f), x.f.Chans[c].Bands[b]
				for _, other := range slices.Concat(noLevels(band, x.q, w), noLists(band, x.q, w), noPulses(band, x.q, w)) {
					f.Chans[c].Bands[b] = other
					checkFit(t, f, x.n, x.q, false)
				}
			}
		}
	}
}

// right: a band of Coarse c that may be, but for its Fine.
func right(c, fine, q, w int) api.Band { return band(c, fine, pulses(alloc.Band(q, c, w), w)...) }

// noLevels: bands whose Coarse or Fine may not be, with x's pulses, and with as many as alloc tells.
func noLevels(x api.Band, q, w int) []api.Band {
	var l []api.Band
	for _, v := range append(lists.Beyond(), -2, -1, 24, 25, 31, 32) {
		l = append(l, band(v, x.Fine, x.Pulses...), right(v, 0, q, w), right(v, 3, q, w))
	}
	for _, v := range append(lists.Beyond(), -2, -1, 4, 5, 7, 8) {
		l = append(l, band(x.Coarse, v, x.Pulses...), right(0, v, q, w), right(1, v, q, w), right(loud, v, q, w))
	}
	return append(l, right(0, 1, q, w), right(0, 2, q, w), right(0, 3, q, w))
}

// noLists: bands whose pulses are in lists that are not as long as the band is wide.
func noLists(x api.Band, q, w int) []api.Band {
	k := alloc.Band(q, x.Coarse, w)
	l := []api.Band{band(x.Coarse, x.Fine), band(x.Coarse, x.Fine, x.Pulses[1:]...), band(x.Coarse, x.Fine, longer(x.Pulses)...), band(0, 0)}
	for _, n := range []int{0, 1, 2, 3, 4, 5, 7, 8, 9, 16, 64} {
		if n != w {
			l = append(l, band(x.Coarse, x.Fine, pulses(k, n)...), band(0, 0, pulses(0, n)...))
		}
	}
	return l
}

// longer: p, and a 0 behind it.
func longer(p []int) []int { return append(slices.Clone(p), 0) }

// noPulses: bands whose pulses are not as far from 0 in all as they have to be: by one at each place, by more, of a band
// that is silent, and so far that their sum runs over, some of them to what it has to be.
func noPulses(x api.Band, q, w int) []api.Band {
	k := alloc.Band(q, x.Coarse, w)
	var l []api.Band
	add := func(p ...int) { l = append(l, band(x.Coarse, x.Fine, append(p, make([]int, w-len(p))...)...)) }
	for i := range x.Pulses {
		for _, by := range []int{-1, 1} {
			p := slices.Clone(x.Pulses)
			p[i] += by
			add(p...)
		}
	}
	for _, other := range []int{0, 1, k - 1, k + 1, 2 * k, full - 1, full, full + 1, 2 * full} {
		if other != k && other >= 0 {
			add(other)
			add(0, -other)
		}
		if other > 0 {
			l = append(l, band(0, 0, pulses(other, w)...), band(0, 0, pulses(-other, w)...))
		}
	}
	for _, v := range lists.Beyond() {
		add(k, v)
		add(v, k)
		add(v, -v)
		add(slices.Repeat([]int{v}, w)...)
	}
	add(least, least)
	if w > 2 {
		add(least, least, k)
		add(most, most, k+2)
		add(k, most, least+1, 0)
	}
	return l
}

// TestCompared: P20.1, each with itself, with a copy, and with each other one.
func TestCompared(t *testing.T) {
	all := frames()
	words, alike := make([]string, len(all)), make([]string, len(all))
	for i, f := range all {
		words[i], alike[i] = told(f), toldAlike(f)
		checkCompared(t, f, f, true, true)
		checkCompared(t, f, clone(f), true, true)
	}
	for i, a := range all {
		for j, b := range all[:i] {
			checkCompared(t, a, b, words[i] == words[j], alike[i] == alike[j])
		}
	}
}

// TestOneThing: P20.1, of frames that differ in one thing alone, in each place.
func TestOneThing(t *testing.T) {
	for _, f := range frames() {
		for _, g := range differing(f) {
			if reflect.DeepEqual(f, g) {
				t.Fatalf("nothing differs: %s", told(f))
			}
			checkCompared(t, f, g, false, false)
		}
		for _, gain := range []int{f.Gain + 1, f.Gain - 1, -f.Gain + 1, f.Gain + 1<<32} {
			g := turned(f, func(g *api.Frame) { g.Gain = gain })
			checkCompared(t, f, g, false, true)
			g.Intra = !g.Intra
			checkCompared(t, f, g, false, true)
			g.Short = !g.Short
			checkCompared(t, f, g, false, false)
		}
		checkCompared(t, f, turned(f, func(g *api.Frame) { g.Intra = !g.Intra }), false, true)
	}
}

// differing: frames each of which differs from f in one thing alone, but for Gain and Intra.
func differing(f api.Frame) []api.Frame {
	l := []api.Frame{
		turned(f, func(g *api.Frame) { g.Short = !g.Short }),
		turned(f, func(g *api.Frame) { g.Side = !g.Side }),
		withChans(f, append(slices.Clone(f.Chans), api.Chan{})),
	}
	if n := len(f.Chans); n > 0 {
		l = append(l, withChans(f, nil), withChans(f, append(slices.Clone(f.Chans), f.Chans[n-1])))
		l = append(l, withChans(f, f.Chans[:n-1]))
	}
	for c, x := range f.Chans {
		l = append(l, withBands(f, c, append(slices.Clone(x.Bands), api.Band{})))
		if n := len(x.Bands); n > 0 {
			l = append(l, withBands(f, c, nil), withBands(f, c, append(slices.Clone(x.Bands), x.Bands[n-1])), withBands(f, c, x.Bands[:n-1]))
		}
		for b, band := range x.Bands {
			for _, other := range otherBands(band) {
				l = append(l, withBand(f, c, b, other))
			}
		}
	}
	return l
}

// otherBands: bands each of which differs from x in one thing alone.
func otherBands(x api.Band) []api.Band {
	p := x.Pulses
	l := []api.Band{band(x.Coarse, x.Fine, longer(p)...)}
	for _, by := range []int{1, -1, 1 << 32} {
		l = append(l, band(x.Coarse+by, x.Fine, p...), band(x.Coarse, x.Fine+by, p...))
	}
	if n := len(p); n > 0 {
		l = append(l, band(x.Coarse, x.Fine, p[:n-1]...), band(x.Coarse, x.Fine))
	}
	for i, v := range p {
		for _, other := range []int{v + 1, v - 1, v + 1<<32} {
			q := slices.Clone(p)
			q[i] = other
			l = append(l, band(x.Coarse, x.Fine, q...))
		}
	}
	return l
}

// TestOtherPlace: P20.1, the same things in other places are others.
func TestOtherPlace(t *testing.T) {
	f := chans(channel(band(1, 2, 3, 4), band(5, 6, 7, 8)), channel(band(9, 10, 11, 12), band(0, 0)))
	one, two := f.Chans[0], f.Chans[1]
	for _, g := range []api.Frame{
		chans(two, one), chans(one, one), chans(channel(one.Bands[1], one.Bands[0]), two),
		chans(channel(one.Bands[0]), channel(one.Bands[1], two.Bands[0], two.Bands[1])),
		withBand(f, 0, 0, band(2, 1, 3, 4)), withBand(f, 0, 0, band(1, 2, 4, 3)), withBand(f, 1, 0, band(9, 10, -11, -12)),
	} {
		checkCompared(t, f, g, false, false)
	}
}

// TestNothing: P20.1, an empty list is none: no channels, no bands, no pulses.
func TestNothing(t *testing.T) {
	for _, p := range [][2]api.Frame{
		{{}, {Chans: []api.Chan{}}}, {chans(), chans([]api.Chan{channel()}[:0]...)}, {chans(channel()), chans(channel([]api.Band{}...))},
		{chans(channel(band(0, 0))), chans(channel(band(0, 0, []int{}...)))}, {chans(channel(band(1, 1))), chans(channel(band(1, 1, []int{1}[:0]...)))},
	} {
		checkCompared(t, p[0], p[1], true, true)
	}
}

// TestBehind: P20.1 and P20.2, what lies behind a list's end is none of the frame.
func TestBehind(t *testing.T) {
	for _, x := range fits(6, 1) {
		f := roomy(x.f)
		checkFit(t, f, x.n, x.q, true)
		checkCompared(t, f, x.f, true, true)
		checkRows(t, f, rows(x.f))
		checkTold(t, "Copy", frame.Copy(f), x.f)
	}
}

// rows are the chapter's words.
func rows(f api.Frame) [][]int {
	l := make([][]int, len(f.Chans))
	for c, x := range f.Chans {
		for _, b := range x.Bands {
			l[c] = append(l[c], b.Coarse)
		}
	}
	return l
}

// TestRows: P20.2, by hand and by the chapter's words, of frames that may not be, too.
func TestRows(t *testing.T) {
	checkRows(t, byHand(), [][]int{{0, 3, 4, 23, 8, 11, 5, 10, 4, 10, 11, 1, 23}})
	checkRows(t, frame.Silent(2), [][]int{make([]int, 13), make([]int, 13)})
	checkRows(t, api.Frame{}, nil)
	checkRows(t, chans(channel(), channel(band(7, 1), band(-5, 2, 1)), channel()), [][]int{nil, {7, -5}, nil})
	for _, f := range frames() {
		checkRows(t, f, rows(f))
	}
}

// TestSilent: P20.2 and P20.3, field by field, and fit of each quality.
func TestSilent(t *testing.T) {
	for n := 1; n <= 2; n++ {
		want := api.Frame{Intra: true}
		for range n {
			var c api.Chan
			for _, w := range widths() {
				c.Bands = append(c.Bands, band(0, 0, pulses(0, w)...))
			}
			want.Chans = append(want.Chans, c)
		}
		checkTold(t, "Silent", frame.Silent(n), want)
		for q := range best + 1 {
			checkFit(t, frame.Silent(n), n, q, true)
			checkFit(t, frame.Silent(n), 3-n, q, false)
		}
		for _, q := range append(lists.Beyond(), -1, 11) {
			checkFit(t, frame.Silent(n), n, q, false)
		}
	}
}

// TestNoSilent: P20.2, of other counts of channels a zero frame.
func TestNoSilent(t *testing.T) {
	for _, n := range append(lists.Beyond(), -2, -1, 0, 3, 4, 8, 13) {
		if f := frame.Silent(n); !reflect.DeepEqual(f, api.Frame{}) {
			t.Fatalf("Silent(%d) = %s, want a zero frame", n, told(f))
		}
	}
}

// TestCopy: P20.2 and P20.3, the same as what was copied.
func TestCopy(t *testing.T) {
	for _, f := range frames() {
		checkTold(t, "Copy", frame.Copy(f), f)
		checkCompared(t, f, frame.Copy(f), true, true)
	}
	for _, x := range fits(7, 1) {
		checkFit(t, frame.Copy(x.f), x.n, x.q, true)
	}
}

// spoil writes over all of f's memory, also what lies behind its lists' ends.
func spoil(f api.Frame) {
	chans := f.Chans[:cap(f.Chans)]
	for i, c := range chans {
		spoilBands(c.Bands)
		chans[i] = api.Chan{}
	}
}

// spoilBands does it to a channel's.
func spoilBands(l []api.Band) {
	l = l[:cap(l)]
	for i, b := range l {
		lists.Spoil(b.Pulses)
		l[i] = api.Band{Coarse: most, Fine: most}
	}
}

// TestCopyOfItsOwn: P20.3, whatever of a copy is written over, what was copied stays as it was, and the other way; two
// copies share nothing with each other.
func TestCopyOfItsOwn(t *testing.T) {
	for _, want := range frames() {
		f := clone(want)
		first, second := frame.Copy(f), frame.Copy(f)
		spoil(first)
		checkTold(t, "what was copied", f, want)
		spoil(f)
		checkTold(t, "a copy", second, want)
	}
}

// TestCopyEachNumber: P20.3, the same of each number alone, and of each thing.
func TestCopyEachNumber(t *testing.T) {
	for _, want := range []api.Frame{byHand(), fits(8, 1)[5].f, odd()[9], odd()[12]} {
		f := clone(want)
		for c, x := range f.Chans {
			for b, band := range x.Bands {
				for p := range band.Pulses {
					frame.Copy(f).Chans[c].Bands[b].Pulses[p]++
				}
				frame.Copy(f).Chans[c].Bands[b].Coarse++
				frame.Copy(f).Chans[c].Bands[b].Fine++
				frame.Copy(f).Chans[c].Bands[b].Pulses = nil
			}
			frame.Copy(f).Chans[c].Bands = nil
		}
		checkTold(t, "what was copied", f, want)
	}
}

// TestSilentOfItsOwn: rule 7, two silent frames share nothing with each other.
func TestSilentOfItsOwn(t *testing.T) {
	for n := 1; n <= 2; n++ {
		first, second := frame.Silent(n), frame.Silent(n)
		want := clone(second)
		spoil(first)
		checkTold(t, "a silent frame", second, want)
		checkTold(t, "a silent frame", frame.Silent(n), want)
	}
}

// TestListsApart: rule 7, no two lists of one answer share any memory, behind their ends neither.
func TestListsApart(t *testing.T) {
	checkApart(t, "Silent", func() api.Frame { return frame.Silent(1) })
	checkApart(t, "Silent", func() api.Frame { return frame.Silent(2) })
	for _, f := range frames() {
		checkApart(t, "Copy", func() api.Frame { return frame.Copy(f) })
	}
	shared := frame.Silent(1)
	shared.Chans = append(shared.Chans, shared.Chans[0])
	shared.Chans[0].Bands[1].Pulses = shared.Chans[0].Bands[0].Pulses
	checkApart(t, "Copy", func() api.Frame { return frame.Copy(shared) })
}

// checkApart writes over each list of what is told, and looks at what else changed.
func checkApart(t *testing.T, name string, tell func() api.Frame) {
	t.Helper()
	want := tell()
	for c, x := range want.Chans {
		for b, band := range x.Bands {
			got := tell()
			lists.Spoil(got.Chans[c].Bands[b].Pulses)
			got.Chans[c].Bands[b].Pulses = band.Pulses
			checkTold(t, name+" with a list of pulses written over", got, want)
		}
		got := tell()
		spoilBands(got.Chans[c].Bands)
		got.Chans[c].Bands = x.Bands
		checkTold(t, name+" with a list of bands written over", got, want)
	}
}

// TestRowsOfTheirOwn: rule 7, rows share nothing with the frame, nor with each other, nor with those of another answer.
func TestRowsOfTheirOwn(t *testing.T) {
	for _, want := range frames() {
		f := clone(want)
		other := frame.Rows(f)
		for c := range f.Chans {
			got := frame.Rows(f)
			lists.Spoil(got[c])
			got[c] = rows(want)[c]
			if !slices.EqualFunc(got, rows(want), slices.Equal) {
				t.Fatalf("with a row of %s others changed: %v", told(want), got)
			}
		}
		checkTold(t, "a frame whose rows were written over", f, want)
		spoil(f)
		if !slices.EqualFunc(other, rows(want), slices.Equal) {
			t.Fatalf("rows of %s changed with it, or with others: %v", told(want), other)
		}
	}
}

// roomy: f, behind the ends of whose lists there is something, too.
func roomy(f api.Frame) api.Frame {
	f = clone(f)
	for i, c := range f.Chans {
		for j, b := range c.Bands {
			f.Chans[i].Bands[j].Pulses = append(b.Pulses, 1, 2, 3)[:len(b.Pulses)]
		}
		f.Chans[i].Bands = append(c.Bands, band(4, 3, 5))[:len(c.Bands)]
	}
	f.Chans = append(f.Chans, channel(band(6, 2, 7)))[:len(f.Chans)]
	return f
}

// stretched: f with all of its memory, also what lies behind its lists' ends.
func stretched(f api.Frame) api.Frame {
	f.Chans = slices.Clone(f.Chans[:cap(f.Chans)])
	for i, c := range f.Chans {
		f.Chans[i].Bands = slices.Clone(c.Bands[:cap(c.Bands)])
		for j, b := range f.Chans[i].Bands {
			f.Chans[i].Bands[j].Pulses = slices.Clone(b.Pulses[:cap(b.Pulses)])
		}
	}
	return f
}

// TestGivenStays: rule 0.5, what is given stays as it was, behind the ends of its lists, too.
func TestGivenStays(t *testing.T) {
	for _, x := range frames() {
		f := roomy(x)
		want, other := stretched(f), roomy(byHand())
		for n := range 4 {
			frame.Fit(f, n, 5)
		}
		frame.Same(f, other)
		frame.Same(other, f)
		frame.Alike(f, other)
		frame.Alike(other, f)
		frame.Rows(f)
		frame.Copy(f)
		checkTold(t, "what was given", stretched(f), want)
		checkTold(t, "what was given", stretched(other), stretched(roomy(byHand())))
	}
}
