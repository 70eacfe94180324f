package yuasa_test

import (
	"math"
	"math/rand"
	"slices"
	"testing"

	"hawthorn/api"
	"hawthorn/arena"
	"hawthorn/cell"
	"hawthorn/mark"
	"hawthorn/yuasa"
)

type refs = []api.Ref

// Refs that no object has in an arena with objects of two fields in each cell.
var noRefs = refs{0, -1, -4, -32, 2, 3, 4, 34, api.MaxPages*api.PageWords + 1, 1 << 32, 1<<32 + 1, math.MaxInt, math.MinInt, math.MinInt + 1}

// early is with Early and without.
var early = []bool{false, true}

func want[T comparable](t *testing.T, what string, got, want T) {
	t.Helper()
	if got != want {
		t.Fatalf("%s: %v, want %v", what, got, want)
	}
}

func born(t *testing.T, a *arena.Arena, fields int) api.Ref {
	t.Helper()
	r, e := cell.New(a, fields)
	want(t, "New", e, api.OK)
	return r
}

func point(t *testing.T, a *arena.Arena, r api.Ref, i int, to api.Ref) {
	t.Helper()
	want(t, "SetField", cell.SetField(a, r, i, to), api.OK)
}

// full is an arena with objects of two fields in each cell (1, 5, 9, ..), eight a page, and a marker of it.
func full(t *testing.T, pages int) (*arena.Arena, *mark.Marker) {
	t.Helper()
	a := arena.New(pages)
	for a.Room(1) {
		born(t, a, 2)
	}
	return a, mark.New(a, api.MaxMark)
}

// shades are the three ways in which a barrier shades an object.
var shades = []func(b *yuasa.Barrier, r api.Ref){
	func(b *yuasa.Barrier, r api.Ref) { b.Pre(0, r) },
	func(b *yuasa.Barrier, r api.Ref) { b.Post(api.Write{Old: r}) },
	func(b *yuasa.Barrier, r api.Ref) { b.Post(api.Write{New: r, Early: true}) },
}

// wantColours: just these are grey, just these are black, and all others white.
func wantColours(t *testing.T, m *mark.Marker, grey, black refs) {
	t.Helper()
	for r := range m.Arena().All() {
		isGrey, isBlack := slices.Contains(grey, r), slices.Contains(black, r)
		if m.Marked(r) != (isGrey || isBlack) || m.Scanned(r) != isBlack {
			t.Fatalf("object %d: marked %v, scanned %v; grey are %v, black %v", r, m.Marked(r), m.Scanned(r), grey, black)
		}
	}
	want(t, "Count", m.Count(), len(grey)+len(black))
	want(t, "Drained", m.Drained(), len(grey) == 0)
}

// wantScanned: one by one just these are scanned, and none is grey behind them.
func wantScanned(t *testing.T, m *mark.Marker, l ...api.Ref) {
	t.Helper()
	for _, r := range l {
		want(t, "Scanned", m.Scanned(r), false)
		want(t, "Trace(1)", m.Trace(1), 1)
		want(t, "Scanned", m.Scanned(r), true)
	}
	want(t, "Trace", m.Trace(math.MaxInt), 0)
}

func TestTheExample(t *testing.T) {
	_, m := full(t, 1)
	b := yuasa.New(m)
	b.Pre(1, 5)
	wantColours(t, m, refs{5}, nil)
}

func TestNewChangesNothing(t *testing.T) {
	for _, pages := range []int{0, 1, 5, api.MaxPages} {
		_, m := full(t, pages)
		yuasa.New(m)
		wantColours(t, m, nil, nil)
	}
	_, m := full(t, 2)
	m.Shade(5)
	m.Blacken(33)
	yuasa.New(m)
	wantColours(t, m, refs{5}, refs{33})
	wantScanned(t, m, 5)
}

func TestEachObjectIsShaded(t *testing.T) {
	for _, shade := range shades {
		for _, pages := range []int{1, 3, api.MaxPages} {
			a, m := full(t, pages)
			b := yuasa.New(m)
			for r := range a.All() {
				shade(b, r)
				wantColours(t, m, refs{r}, nil)
				wantScanned(t, m, r)
				m.Reset()
			}
		}
	}
}

func TestObjectsOfEachClass(t *testing.T) {
	for _, shade := range shades {
		a := arena.New(api.MaxFields + 1)
		m := mark.New(a, 1)
		b := yuasa.New(m)
		var l refs
		for fields := range api.MaxFields + 1 {
			l = append(l, born(t, a, fields))
		}
		for i, r := range l {
			shade(b, r)
			wantColours(t, m, l[:i+1], nil)
		}
	}
}

func TestPreShadesOldAlone(t *testing.T) {
	_, m := full(t, 3)
	b := yuasa.New(m)
	for _, src := range append(refs{1, 5, 33, 65}, noRefs...) {
		m.Reset()
		m.Blacken(33)
		b.Pre(src, 9)
		wantColours(t, m, refs{9}, refs{33})
		b.Pre(src, 0)
		wantColours(t, m, refs{9}, refs{33})
	}
	b.Pre(5, 5)
	wantColours(t, m, refs{5, 9}, refs{33})
}

func TestPostShadesOldAndNewIfEarly(t *testing.T) {
	_, m := full(t, 3)
	b := yuasa.New(m)
	for _, src := range append(refs{1, 5, 33, 65}, noRefs...) {
		for _, black := range []bool{false, true} {
			m.Reset()
			m.Blacken(33)
			b.Post(api.Write{Src: src, Old: 9, New: 37, Black: black})
			wantColours(t, m, refs{9}, refs{33})
			b.Post(api.Write{Src: src, Old: 9, New: 37, Black: black, Early: true})
			wantColours(t, m, refs{9, 37}, refs{33})
			wantScanned(t, m, 37, 9)
		}
	}
}

func TestOldIsShadedAheadOfNew(t *testing.T) {
	_, m := full(t, 2)
	b := yuasa.New(m)
	b.Post(api.Write{Src: 1, Old: 5, New: 33, Early: true})
	b.Post(api.Write{Src: 1, Old: 37, New: 9, Early: true})
	wantScanned(t, m, 9, 37, 33, 5)
}

func TestOneOfTheTwoIsNil(t *testing.T) {
	_, m := full(t, 2)
	b := yuasa.New(m)
	b.Post(api.Write{Src: 1, New: 5})
	wantColours(t, m, nil, nil)
	b.Post(api.Write{Src: 1, New: 5, Early: true})
	wantColours(t, m, refs{5}, nil)
	b.Post(api.Write{Src: 1, Old: 9, Early: true})
	wantColours(t, m, refs{5, 9}, nil)
	b.Post(api.Write{Src: 1, Black: true, Early: true})
	b.Pre(1, 0)
	wantColours(t, m, refs{5, 9}, nil)
	wantScanned(t, m, 9, 5)
}

func TestAnObjectThatStaysWhereItIs(t *testing.T) {
	for _, e := range early {
		_, m := full(t, 1)
		b := yuasa.New(m)
		b.Post(api.Write{Src: 5, Old: 5, New: 5, Early: e})
		wantColours(t, m, refs{5}, nil)
		wantScanned(t, m, 5)
	}
}

func TestAGlobal(t *testing.T) {
	_, m := full(t, 2)
	b := yuasa.New(m)
	b.Pre(0, 33)
	wantColours(t, m, refs{33}, nil)
	b.Post(api.Write{Src: 0, Old: 33, New: 1})
	wantColours(t, m, refs{33}, nil)
	b.Post(api.Write{Src: 0, Old: 37, New: 1, Early: true})
	wantColours(t, m, refs{33, 37, 1}, nil)
}

func TestWhatIsNotWhiteStays(t *testing.T) {
	for _, shade := range shades {
		_, m := full(t, 2)
		b := yuasa.New(m)
		m.Shade(5)
		m.Shade(9)
		m.Blacken(33)
		for range 2 {
			shade(b, 5)
			shade(b, 33)
			wantColours(t, m, refs{5, 9}, refs{33})
		}
		// A grey one isn't pushed again: it stays below 9.
		wantScanned(t, m, 9, 5)
		wantColours(t, m, nil, refs{5, 9, 33})
	}
}

func TestWhatIsNoObject(t *testing.T) {
	_, m := full(t, api.MaxPages)
	b := yuasa.New(m)
	m.Shade(1)
	for _, r := range noRefs {
		for _, shade := range shades {
			shade(b, r)
			wantColours(t, m, refs{1}, nil)
		}
		for _, e := range early {
			b.Post(api.Write{Src: 5, Old: r, New: r, Early: e})
			wantColours(t, m, refs{1}, nil)
		}
	}
	wantScanned(t, m, 1)
	for _, shade := range shades {
		_, m = full(t, 1)
		b = yuasa.New(m)
		for _, r := range (refs{33, 37, 61}) {
			shade(b, r)
			wantColours(t, m, nil, nil)
		}
	}
}

func TestOneOfTheTwoIsNoObject(t *testing.T) {
	_, m := full(t, 2)
	b := yuasa.New(m)
	for _, r := range noRefs {
		m.Reset()
		b.Post(api.Write{Src: 1, Old: r, New: 5, Early: true})
		wantColours(t, m, refs{5}, nil)
		b.Post(api.Write{Src: 1, Old: 9, New: r, Early: true})
		wantColours(t, m, refs{5, 9}, nil)
	}
}

func TestACellThatWasGivenBack(t *testing.T) {
	for _, shade := range shades {
		a, m := full(t, 1)
		b := yuasa.New(m)
		a.Give(9)
		shade(b, 9)
		wantColours(t, m, nil, nil)
		want(t, "Ref", born(t, a, 1), 9)
		wantColours(t, m, nil, nil)
		shade(b, 9)
		wantColours(t, m, refs{9}, nil)
	}
}

func TestAnArenaWithNoPages(t *testing.T) {
	_, m := full(t, 0)
	b := yuasa.New(m)
	for _, shade := range shades {
		for _, r := range append(refs{1, 33}, noRefs...) {
			shade(b, r)
		}
	}
	b.Remark()
	b.Reset()
	want(t, "Rescans", b.Rescans(), false)
	want(t, "Count", m.Count(), 0)
	want(t, "Drained", m.Drained(), true)
}

func TestNothingIsScanned(t *testing.T) {
	for _, shade := range shades {
		a, m := full(t, 2)
		b := yuasa.New(m)
		point(t, a, 5, 0, 9)
		point(t, a, 5, 1, 33)
		shade(b, 5)
		wantColours(t, m, refs{5}, nil)
		want(t, "Trace(1)", m.Trace(1), 1)
		wantColours(t, m, refs{9, 33}, refs{5})
	}
}

func TestTheNewestIsScannedFirst(t *testing.T) {
	for _, shade := range shades {
		_, m := full(t, 3)
		b := yuasa.New(m)
		for _, r := range (refs{33, 5, 65, 5, 1}) {
			shade(b, r)
		}
		wantScanned(t, m, 1, 65, 5, 33)
	}
}

func TestAStackOfOnePlace(t *testing.T) {
	for _, shade := range shades {
		a := arena.New(2)
		for a.Room(0) {
			born(t, a, 0)
		}
		m := mark.New(a, 1)
		b := yuasa.New(m)
		all := slices.Collect(a.All())
		for _, r := range all {
			shade(b, r)
		}
		wantColours(t, m, all, nil)
		b.Reset()
		b.Remark()
		want(t, "Trace", m.Trace(math.MaxInt), 32)
		wantColours(t, m, nil, all)
	}
}

func TestRemarkAndResetDoNothing(t *testing.T) {
	for _, do := range []func(*yuasa.Barrier){(*yuasa.Barrier).Remark, (*yuasa.Barrier).Reset} {
		_, m := full(t, 3)
		b := yuasa.New(m)
		do(b)
		wantColours(t, m, nil, nil)
		m.Blacken(33)
		b.Post(api.Write{Src: 33, Old: 5, New: 37, Black: true})
		b.Pre(33, 65)
		b.Post(api.Write{Src: 33, New: 1, Black: true, Early: true})
		for range 3 {
			do(b)
			wantColours(t, m, refs{5, 65, 1}, refs{33})
		}
		// The stack has what it had, in its order.
		wantScanned(t, m, 1, 65, 5)
		do(b)
		wantColours(t, m, nil, refs{1, 5, 33, 65})
		b.Pre(33, 9)
		wantColours(t, m, refs{9}, refs{1, 5, 33, 65})
	}
}

func TestRootsAreNeverLookedAtAgain(t *testing.T) {
	_, m := full(t, 1)
	b := yuasa.New(m)
	want(t, "at first", b.Rescans(), false)
	for _, shade := range shades {
		shade(b, 1)
		want(t, "behind it", b.Rescans(), false)
	}
	wantColours(t, m, refs{1}, nil)
	b.Remark()
	want(t, "behind Remark", b.Rescans(), false)
	b.Reset()
	want(t, "behind Reset", b.Rescans(), false)
	m.Trace(math.MaxInt)
	want(t, "behind Trace", b.Rescans(), false)
	m.Reset()
	want(t, "behind the marker's Reset", b.Rescans(), false)
}

func TestTheMarkersResetCounts(t *testing.T) {
	_, m := full(t, 2)
	b := yuasa.New(m)
	b.Pre(1, 5)
	b.Pre(1, 33)
	m.Reset()
	b.Remark()
	wantColours(t, m, nil, nil)
	b.Pre(1, 33)
	wantColours(t, m, refs{33}, nil)
	wantScanned(t, m, 33)
}

func TestTheArenaIsNotChanged(t *testing.T) {
	a, m := full(t, 2)
	for r := range a.All() {
		point(t, a, r, 1, 62-r)
		cell.SetScalar(a, r, int(-r))
	}
	b := yuasa.New(m)
	b.Pre(1, 5)
	b.Post(api.Write{Src: 1, Old: 5, New: 33, Early: true})
	b.Remark()
	b.Reset()
	want(t, "Free", a.Free(), 0)
	want(t, "how many", len(slices.Collect(a.All())), 16)
	for r := range a.All() {
		none, _ := cell.Field(a, r, 0)
		want(t, "Field 0", none, 0)
		to, _ := cell.Field(a, r, 1)
		want(t, "Field 1", to, 62-r)
		x, _ := cell.Scalar(a, r)
		want(t, "Scalar", x, int(-r))
	}
}

func TestBarriersOfOneMarker(t *testing.T) {
	_, m := full(t, 2)
	x, y := yuasa.New(m), yuasa.New(m)
	x.Pre(0, 1)
	y.Pre(0, 33)
	wantColours(t, m, refs{1, 33}, nil)
	y.Reset()
	wantColours(t, m, refs{1, 33}, nil)
}

func TestBarriersOfTwoMarkers(t *testing.T) {
	a, m := full(t, 2)
	other := mark.New(a, 4)
	x, y := yuasa.New(m), yuasa.New(other)
	x.Pre(0, 1)
	y.Pre(0, 33)
	wantColours(t, m, refs{1}, nil)
	wantColours(t, other, refs{33}, nil)
}

// write writes to a field, as a thread does.
func write(t *testing.T, b *yuasa.Barrier, m *mark.Marker, src api.Ref, i int, to api.Ref) {
	t.Helper()
	old, _ := cell.Field(m.Arena(), src, i)
	b.Pre(src, old)
	point(t, m.Arena(), src, i, to)
	b.Post(api.Write{Src: src, Old: old, New: to, Black: m.Scanned(src)})
}

func TestWhatIsPutIntoABlackOneIsKept(t *testing.T) {
	// 1 and 5 are roots; 9 lies in 5 alone, is put into 1, which is black, and taken out of 5; 33 lies in 9.
	a, m := full(t, 2)
	point(t, a, 5, 0, 9)
	point(t, a, 9, 0, 33)
	b := yuasa.New(m)
	m.Shade(5)
	m.Shade(1)
	want(t, "Trace(1)", m.Trace(1), 1)
	wantColours(t, m, refs{5}, refs{1})
	write(t, b, m, 1, 0, 9)
	wantColours(t, m, refs{5}, refs{1})
	write(t, b, m, 5, 0, 0)
	wantColours(t, m, refs{5, 9}, refs{1})
	b.Remark()
	want(t, "Trace", m.Trace(math.MaxInt), 3)
	wantColours(t, m, nil, refs{1, 5, 9, 33})
}

func TestWhatIsClearedFloats(t *testing.T) {
	a, m := full(t, 1)
	point(t, a, 1, 0, 9)
	b := yuasa.New(m)
	m.Shade(1)
	write(t, b, m, 1, 0, 0)
	want(t, "Trace", m.Trace(math.MaxInt), 2)
	wantColours(t, m, nil, refs{1, 9})
}

// leads is all that roots lead to, rising.
func leads(a *arena.Arena, roots refs) refs {
	l := slices.Compact(slices.Sorted(slices.Values(roots)))
	for i := 0; i < len(l); i++ {
		for to := range cell.Points(a, l[i]) {
			if !slices.Contains(l, to) {
				l = append(l, to)
			}
		}
	}
	slices.Sort(l)
	return l
}

// TestJustWhatRootsLedToIsKept: at random, roots are moved along fields, and fields written, while objects are
// traced, as a thread does that has in hand what roots lead to, and nothing else. Just what roots led to at
// first is kept, with no look at roots again.
func TestJustWhatRootsLedToIsKept(t *testing.T) {
	rnd := rand.New(rand.NewSource(3))
	for range 300 {
		a, _ := full(t, 3)
		m := mark.New(a, 1+rnd.Intn(4))
		all := slices.Collect(a.All())
		for range 30 {
			point(t, a, all[rnd.Intn(len(all))], rnd.Intn(2), all[rnd.Intn(len(all))])
		}
		roots := refs{all[rnd.Intn(len(all))], all[rnd.Intn(len(all))], all[rnd.Intn(len(all))]}
		first := leads(a, roots)
		b := yuasa.New(m)
		for _, r := range roots {
			m.Shade(r)
		}
		for range 40 {
			moveOn(t, rnd, b, m, roots)
		}
		b.Remark()
		m.Trace(math.MaxInt)
		want(t, "just what roots led to", slices.Equal(slices.Collect(m.All()), first), true)
		for _, r := range leads(a, roots) {
			want(t, "Marked", m.Marked(r), true)
		}
	}
}

// moveOn does one thing of the thread, or of tracing.
func moveOn(t *testing.T, rnd *rand.Rand, b *yuasa.Barrier, m *mark.Marker, roots refs) {
	t.Helper()
	i, j := rnd.Intn(len(roots)), rnd.Intn(len(roots))
	switch rnd.Intn(4) {
	case 0:
		if to, _ := cell.Field(m.Arena(), roots[i], rnd.Intn(2)); to != 0 {
			roots[j] = to
		}
	case 1:
		write(t, b, m, roots[i], rnd.Intn(2), roots[j])
	case 2:
		write(t, b, m, roots[i], rnd.Intn(2), 0)
	case 3:
		m.Trace(rnd.Intn(3))
	}
}

func TestAgainstAMarkerThatIsShaded(t *testing.T) {
	rnd := rand.New(rand.NewSource(4))
	for range 100 {
		a, _ := full(t, 2)
		room := 1 + rnd.Intn(6)
		m, like := mark.New(a, room), mark.New(a, room)
		b := yuasa.New(m)
		all := append(slices.Collect(a.All()), noRefs...)
		pick := func() api.Ref { return all[rnd.Intn(len(all))] }
		for range 60 {
			switch rnd.Intn(6) {
			case 0, 1:
				w := api.Write{Src: pick(), Old: pick(), New: pick(), Black: rnd.Intn(2) > 0, Early: rnd.Intn(2) > 0}
				b.Post(w)
				like.Shade(w.Old)
				if w.Early {
					like.Shade(w.New)
				}
			case 2:
				old := pick()
				b.Pre(pick(), old)
				like.Shade(old)
			case 3:
				b.Remark()
			case 4:
				b.Reset()
			case 5:
				n := rnd.Intn(3)
				want(t, "Trace", m.Trace(n), like.Trace(n))
			}
			for r := range a.All() {
				want(t, "Marked", m.Marked(r), like.Marked(r))
				want(t, "Scanned", m.Scanned(r), like.Scanned(r))
			}
		}
	}
}
