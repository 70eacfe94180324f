package vyb_test

import (
	"math"
	"math/rand"
	"slices"
	"testing"

	"hawthorn/api"
	"hawthorn/arena"
	"hawthorn/cell"
	"hawthorn/mark"
	"hawthorn/vyb"
)

type refs = []api.Ref

// Refs that lie in no arena.
var farRefs = refs{-1, -4, -32, -33, api.MaxPages*api.PageWords + 1, api.MaxPages*api.PageWords + 5, 1 << 32, 1<<32 + 1, 1<<32 + 5, math.MaxInt, math.MaxInt - 1, math.MinInt, math.MinInt + 1}

// Refs of an arena with objects of two fields in each cell that no object has.
var innerRefs = refs{2, 3, 4, 6, 8, 32}

func want[T comparable](t *testing.T, what string, got, want T) {
	t.Helper()
	if got != want {
		t.Fatalf("%s: %v, want %v", what, got, want)
	}
}

func born(t *testing.T, a *arena.Arena, fields int) api.Ref {
	t.Helper()
	r, e := cell.New(a, fields)
	want(t, "New", e, api.OK)
	return r
}

func point(t *testing.T, a *arena.Arena, r api.Ref, i int, to api.Ref) {
	t.Helper()
	want(t, "SetField", cell.SetField(a, r, i, to), api.OK)
}

// full is an arena with objects of two fields in each cell (1, 5, 9, ..), eight a page, and a marker of it.
func full(t *testing.T, pages int) (*arena.Arena, *mark.Marker) {
	t.Helper()
	a := arena.New(pages)
	for a.Room(1) {
		born(t, a, 2)
	}
	return a, mark.New(a, api.MaxMark)
}

// put: a black object is made to point to r.
func put(b *vyb.Barrier, l ...api.Ref) {
	for _, r := range l {
		b.Post(api.Write{Src: 1, New: r, Black: true})
	}
}

// drop: a black object points to r no more.
func drop(b *vyb.Barrier, l ...api.Ref) {
	for _, r := range l {
		b.Post(api.Write{Src: 1, Old: r, Black: true})
	}
}

// counts are those of up to four Refs.
func counts(b *vyb.Barrier, l ...api.Ref) (c [4]int) {
	for i, r := range l {
		c[i] = b.Count(r)
	}
	return c
}

// wantColours: just these are grey, just these are black, and all others white.
func wantColours(t *testing.T, m *mark.Marker, grey, black refs) {
	t.Helper()
	for r := range m.Arena().All() {
		isGrey, isBlack := slices.Contains(grey, r), slices.Contains(black, r)
		if m.Marked(r) != (isGrey || isBlack) || m.Scanned(r) != isBlack {
			t.Fatalf("object %d: marked %v, scanned %v; grey are %v, black %v", r, m.Marked(r), m.Scanned(r), grey, black)
		}
	}
	want(t, "Count", m.Count(), len(grey)+len(black))
	want(t, "Drained", m.Drained(), len(grey) == 0)
}

// wantScanned: one by one just these are scanned, and none is grey behind them.
func wantScanned(t *testing.T, m *mark.Marker, l ...api.Ref) {
	t.Helper()
	for _, r := range l {
		want(t, "Scanned", m.Scanned(r), false)
		want(t, "Trace(1)", m.Trace(1), 1)
		want(t, "Scanned", m.Scanned(r), true)
	}
	want(t, "Trace", m.Trace(math.MaxInt), 0)
}

// wantNew: it is as a new one, whatever Ref is asked for.
func wantNew(t *testing.T, b *vyb.Barrier, m *mark.Marker) {
	t.Helper()
	want(t, "Over", b.Over(), false)
	for r := range m.Arena().Size() + 100 {
		want(t, "Count", b.Count(api.Ref(r)), 0)
	}
	for _, r := range farRefs {
		want(t, "Count", b.Count(r), 0)
	}
}

func TestTheExample(t *testing.T) {
	_, m := full(t, 1)
	b := vyb.New(m, 4)
	b.Post(api.Write{New: 5, Black: true})
	want(t, "Count", b.Count(5), 1)
	b.Post(api.Write{Old: 5, Black: true})
	want(t, "Count", b.Count(5), 0)
	b.Remark()
	wantColours(t, m, nil, nil)
}

func TestNew(t *testing.T) {
	for _, pages := range []int{0, 1, 5, api.MaxPages} {
		for _, room := range []int{math.MinInt, -1, 0, 1, api.MaxLog, math.MaxInt} {
			_, m := full(t, pages)
			b := vyb.New(m, room)
			wantNew(t, b, m)
			b.Remark()
			wantNew(t, b, m)
			wantColours(t, m, nil, nil)
		}
	}
	_, m := full(t, 2)
	m.Shade(5)
	m.Blacken(33)
	b := vyb.New(m, 2)
	wantNew(t, b, m)
	wantColours(t, m, refs{5}, refs{33})
	wantScanned(t, m, 5)
}

func TestPreDoesNothing(t *testing.T) {
	_, m := full(t, 2)
	b := vyb.New(m, 2)
	m.Blacken(33)
	all := append(append(refs{0, 1, 5, 33, 37}, innerRefs...), farRefs...)
	for _, src := range all {
		for _, old := range all {
			b.Pre(src, old)
		}
	}
	wantNew(t, b, m)
	put(b, 5, 5)
	b.Pre(33, 5)
	want(t, "Count", b.Count(5), 2)
	b.Remark()
	wantColours(t, m, refs{5}, refs{33})
}

func TestACountRisesToThreeAndStays(t *testing.T) {
	_, m := full(t, 2)
	b := vyb.New(m, 100)
	for i := range 10 {
		want(t, "Count", b.Count(33), min(i, 3))
		put(b, 33)
	}
	for range 20 {
		drop(b, 33)
		want(t, "Count", b.Count(33), 3)
	}
	put(b, 33)
	want(t, "Count", b.Count(33), 3)
	want(t, "Over", b.Over(), false)
	want(t, "another's", b.Count(37), 0)
	b.Remark()
	wantColours(t, m, refs{33}, nil)
}

func TestACountOfOneOrTwoFalls(t *testing.T) {
	_, m := full(t, 1)
	b := vyb.New(m, 8)
	put(b, 5, 5, 9)
	want(t, "counts", counts(b, 1, 5, 9, 13), [4]int{0, 2, 1, 0})
	drop(b, 5)
	want(t, "counts", counts(b, 1, 5, 9, 13), [4]int{0, 1, 1, 0})
	drop(b, 5, 9, 13)
	want(t, "counts", counts(b, 1, 5, 9, 13), [4]int{0, 0, 0, 0})
	drop(b, 5, 9, 13)
	want(t, "counts", counts(b, 1, 5, 9, 13), [4]int{0, 0, 0, 0})
	put(b, 5)
	want(t, "counts", counts(b, 1, 5, 9, 13), [4]int{0, 1, 0, 0})
	drop(b, 5)
	put(b, 5, 5)
	drop(b, 5)
	put(b, 5, 5)
	want(t, "counts", counts(b, 1, 5, 9, 13), [4]int{0, 3, 0, 0})
}

func TestBothOfOneWrite(t *testing.T) {
	_, m := full(t, 1)
	b := vyb.New(m, 8)
	put(b, 9, 9)
	b.Post(api.Write{Src: 1, Old: 9, New: 5, Black: true})
	want(t, "counts", counts(b, 1, 5, 9, 13), [4]int{0, 1, 1, 0})
	b.Post(api.Write{Src: 1, Old: 5, New: 9, Black: true})
	want(t, "counts", counts(b, 1, 5, 9, 13), [4]int{0, 0, 2, 0})
	b.Post(api.Write{Src: 1, Old: 13, New: 9, Black: true})
	want(t, "counts", counts(b, 1, 5, 9, 13), [4]int{0, 0, 3, 0})
	b.Post(api.Write{Src: 1, Old: 9, New: 5, Black: true})
	want(t, "counts", counts(b, 1, 5, 9, 13), [4]int{0, 1, 3, 0})
}

func TestNewCountsAheadOfOld(t *testing.T) {
	_, m := full(t, 1)
	b := vyb.New(m, 3)
	same := api.Write{Src: 1, Old: 5, New: 5, Black: true}
	b.Post(same)
	want(t, "of 0", b.Count(5), 0)
	put(b, 5)
	b.Post(same)
	want(t, "of 1", b.Count(5), 1)
	want(t, "Over", b.Over(), false)
	put(b, 5)
	b.Post(same)
	// Its count was 3, if but for a moment.
	want(t, "of 2", b.Count(5), 3)
	b.Post(same)
	want(t, "of 3", b.Count(5), 3)
	want(t, "Over", b.Over(), true)
}

func TestNothingIsDoneIfItIsNotBlack(t *testing.T) {
	_, m := full(t, 2)
	b := vyb.New(m, 1)
	all := append(append(refs{0, 1, 5, 33, 37}, innerRefs...), farRefs...)
	for _, old := range all {
		for _, to := range all {
			b.Post(api.Write{Src: 1, Old: old, New: to})
			b.Post(api.Write{Src: 33, Old: old, New: to, Early: true})
		}
	}
	wantNew(t, b, m)
	put(b, 5)
	b.Post(api.Write{Src: 1, Old: 5})
	b.Post(api.Write{Src: 1, New: 5})
	want(t, "Count", b.Count(5), 1)
	want(t, "Over", b.Over(), false)
}

// TestWhatPlaysNoPart: whether it was early, who was written to, and what its colour is now.
func TestWhatPlaysNoPart(t *testing.T) {
	for _, src := range append(append(refs{0, 1, 5, 33}, innerRefs...), farRefs...) {
		for _, early := range []bool{false, true} {
			_, m := full(t, 2)
			m.Blacken(33)
			b := vyb.New(m, 2)
			put(b, 9)
			b.Post(api.Write{Src: src, Old: 9, New: 37, Black: true, Early: early})
			want(t, "counts", counts(b, 1, 9, 33, 37), [4]int{0, 0, 0, 1})
			wantColours(t, m, nil, refs{33})
			b.Remark()
			wantColours(t, m, refs{37}, refs{33})
		}
	}
}

func TestNothingWritten(t *testing.T) {
	_, m := full(t, 1)
	b := vyb.New(m, 0)
	for range 3 {
		b.Post(api.Write{Src: 1, Black: true})
	}
	wantNew(t, b, m)
	b = vyb.New(m, 1)
	put(b, 5)
	// What is nil takes no place of the log, and what is taken away takes none.
	b.Post(api.Write{Src: 1, Old: 9, Black: true})
	b.Post(api.Write{Src: 1, Black: true})
	want(t, "counts", counts(b, 0, 1, 5, 9), [4]int{0, 0, 1, 0})
	want(t, "Over", b.Over(), false)
	b.Post(api.Write{Src: 1, Old: 5, Black: true})
	want(t, "counts", counts(b, 0, 1, 5, 9), [4]int{0, 0, 0, 0})
	want(t, "Over", b.Over(), false)
}

func TestNothingWrittenOver(t *testing.T) {
	_, m := full(t, 1)
	b := vyb.New(m, 4)
	b.Post(api.Write{Src: 1, New: 5, Black: true})
	b.Post(api.Write{Src: 1, New: 9, Black: true})
	want(t, "counts", counts(b, 0, 1, 5, 9), [4]int{0, 0, 1, 1})
}

func TestPlacesOfTheLog(t *testing.T) {
	for _, room := range []int{1, 2, 3, 5, 16, api.MaxLog} {
		a, m := full(t, 9)
		b := vyb.New(m, room)
		for i, r := range slices.Collect(a.All())[:room+1] {
			want(t, "Over", b.Over(), false)
			put(b, r)
			want(t, "Over", b.Over(), i == room)
		}
	}
}

func TestEachWriteTakesAPlace(t *testing.T) {
	_, m := full(t, 1)
	b := vyb.New(m, 6)
	put(b, 5)
	drop(b, 5)
	put(b, 5, 5, 5, 5, 5)
	want(t, "Over", b.Over(), false)
	// It takes one when its count is 3 already, too.
	put(b, 5)
	want(t, "Over", b.Over(), true)
}

func TestALogWithNoPlaces(t *testing.T) {
	for _, room := range []int{0, -1, -64, math.MinInt} {
		_, m := full(t, 2)
		b := vyb.New(m, room)
		drop(b, 5)
		want(t, "Over", b.Over(), false)
		put(b, 33, 9)
		want(t, "Over", b.Over(), true)
		drop(b, 9)
		put(b, 5)
		want(t, "counts", counts(b, 1, 5, 9, 33), [4]int{0, 1, 0, 1})
		b.Remark()
		wantColours(t, m, refs{5, 33}, nil)
		wantScanned(t, m, 33, 5)
	}
}

func TestALogThatCannotRunOver(t *testing.T) {
	_, m := full(t, 2)
	b := vyb.New(m, math.MaxInt)
	for range 1000 {
		put(b, 33, 5)
	}
	want(t, "Over", b.Over(), false)
	b.Remark()
	wantScanned(t, m, 5, 33)
}

func TestItStaysThatItRanOver(t *testing.T) {
	_, m := full(t, 1)
	b := vyb.New(m, 1)
	put(b, 5, 9)
	for _, do := range []func(){func() { drop(b, 5, 9) }, b.Remark, m.Reset, func() { put(b, 1) }, b.Remark} {
		do()
		want(t, "Over", b.Over(), true)
	}
	b.Reset()
	want(t, "Over", b.Over(), false)
}

func TestRemarkGoesByTheLog(t *testing.T) {
	_, m := full(t, 3)
	b := vyb.New(m, 6)
	put(b, 33, 5, 65, 9, 33, 1)
	drop(b, 5)
	b.Remark()
	wantColours(t, m, refs{33, 65, 9, 1}, nil)
	wantScanned(t, m, 1, 9, 65, 33)
}

func TestRemarkWhenTheLogRanOver(t *testing.T) {
	_, m := full(t, 3)
	b := vyb.New(m, 3)
	put(b, 69, 33, 9, 65, 5, 37, 1)
	drop(b, 33, 37)
	b.Remark()
	// First those of the log that count (69, 9), then the others that do, rising.
	wantColours(t, m, refs{69, 9, 1, 5, 65}, nil)
	wantScanned(t, m, 65, 5, 1, 9, 69)
}

func TestRemarkOfEachCount(t *testing.T) {
	for _, room := range []int{0, 2, 100} {
		_, m := full(t, 1)
		b := vyb.New(m, room)
		put(b, 1, 5, 5, 9, 9, 9, 13)
		drop(b, 13)
		want(t, "counts", counts(b, 1, 5, 9, 13), [4]int{1, 2, 3, 0})
		b.Remark()
		wantColours(t, m, refs{1, 5, 9}, nil)
		want(t, "counts", counts(b, 1, 5, 9, 13), [4]int{1, 2, 3, 0})
	}
}

func TestEachObjectIsShaded(t *testing.T) {
	for _, pages := range []int{1, 3, api.MaxPages} {
		for _, room := range []int{0, 1} {
			a, m := full(t, pages)
			b := vyb.New(m, room)
			for r := range a.All() {
				put(b, r)
				wantColours(t, m, nil, nil)
				b.Remark()
				wantColours(t, m, refs{r}, nil)
				wantScanned(t, m, r)
				m.Reset()
				b.Reset()
			}
		}
	}
}

func TestObjectsOfEachClass(t *testing.T) {
	for _, room := range []int{0, 3, 10} {
		a := arena.New(api.MaxFields + 1)
		m := mark.New(a, 1)
		b := vyb.New(m, room)
		var l refs
		for fields := range api.MaxFields + 1 {
			l = append(l, born(t, a, fields))
		}
		for i, r := range l {
			put(b, r)
			b.Remark()
			wantColours(t, m, l[:i+1], nil)
		}
	}
}

func TestWhatIsNotWhiteStays(t *testing.T) {
	for _, room := range []int{0, 9} {
		_, m := full(t, 2)
		b := vyb.New(m, room)
		m.Shade(5)
		m.Shade(9)
		m.Blacken(33)
		put(b, 5, 33, 5, 33)
		for range 2 {
			b.Remark()
			wantColours(t, m, refs{5, 9}, refs{33})
		}
		// A grey one isn't pushed again: it stays below 9.
		wantScanned(t, m, 9, 5)
	}
}

func TestRemarkKeepsWhatThereIs(t *testing.T) {
	for _, room := range []int{1, 9} {
		_, m := full(t, 2)
		b := vyb.New(m, room)
		put(b, 33, 5, 5)
		for range 3 {
			b.Remark()
			wantColours(t, m, refs{33, 5}, nil)
			want(t, "counts", counts(b, 5, 33), [4]int{2, 1})
			want(t, "Over", b.Over(), room == 1)
			m.Reset()
		}
		drop(b, 33)
		put(b, 37)
		b.Remark()
		wantColours(t, m, refs{5, 37}, nil)
	}
}

func TestNothingIsScanned(t *testing.T) {
	for _, room := range []int{0, 9} {
		a, m := full(t, 2)
		b := vyb.New(m, room)
		point(t, a, 5, 0, 9)
		point(t, a, 5, 1, 33)
		put(b, 5)
		wantColours(t, m, nil, nil)
		b.Remark()
		wantColours(t, m, refs{5}, nil)
		want(t, "Trace(1)", m.Trace(1), 1)
		wantColours(t, m, refs{9, 33}, refs{5})
	}
}

func TestAStackOfOnePlace(t *testing.T) {
	for _, room := range []int{0, 5, 100} {
		a := arena.New(2)
		for a.Room(0) {
			born(t, a, 0)
		}
		m := mark.New(a, 1)
		b := vyb.New(m, room)
		all := slices.Collect(a.All())
		put(b, all...)
		b.Remark()
		wantColours(t, m, all, nil)
		want(t, "Trace", m.Trace(math.MaxInt), 32)
		wantColours(t, m, nil, all)
	}
}

func TestReset(t *testing.T) {
	for _, room := range []int{-1, 0, 1, 2, 9} {
		_, m := full(t, 2)
		b := vyb.New(m, room)
		wantNew(t, b, m)
		for range 3 {
			put(b, 33, 5, 5, 9, 9, 9, 1)
			drop(b, 1)
			b.Remark()
			b.Reset()
			wantNew(t, b, m)
			// The marker is as it was.
			wantColours(t, m, refs{33, 5, 9}, nil)
			m.Reset()
			b.Remark()
			wantColours(t, m, nil, nil)
		}
	}
}

func TestTheLogHasItsPlacesBehindReset(t *testing.T) {
	_, m := full(t, 2)
	b := vyb.New(m, 2)
	put(b, 33, 5, 9)
	b.Reset()
	put(b, 37, 1)
	want(t, "Over", b.Over(), false)
	b.Remark()
	wantColours(t, m, refs{37, 1}, nil)
	wantScanned(t, m, 1, 37)
	put(b, 5)
	want(t, "Over", b.Over(), true)
}

func TestRootsAreAlwaysLookedAtAgain(t *testing.T) {
	_, m := full(t, 1)
	b := vyb.New(m, 1)
	want(t, "at first", b.Rescans(), true)
	for _, do := range []func(){func() { put(b, 5, 9) }, b.Remark, func() { m.Trace(9) }, b.Reset, m.Reset} {
		do()
		want(t, "Rescans", b.Rescans(), true)
	}
}

func TestCountsOfWhatLiesInNoPage(t *testing.T) {
	_, m := full(t, 1)
	b := vyb.New(m, 1000)
	l := append(refs{33, 34, 37, 64, 65}, farRefs...)
	for range 4 {
		put(b, l...)
		for _, r := range l {
			want(t, "Count", b.Count(r), 0)
		}
	}
	drop(b, l...)
	b.Remark()
	wantNew(t, b, m)
	wantColours(t, m, nil, nil)
	// The greatest arena has no more Refs than its pages have words.
	_, m = full(t, api.MaxPages)
	b = vyb.New(m, 1000)
	put(b, farRefs...)
	want(t, "Count", b.Count(api.MaxPages*api.PageWords+1), 0)
	b.Remark()
	wantColours(t, m, nil, nil)
	put(b, api.MaxPages*api.PageWords-3)
	want(t, "Count", b.Count(api.MaxPages*api.PageWords-3), 1)
}

func TestWhatLiesInNoPageTakesAPlace(t *testing.T) {
	for _, r := range farRefs {
		_, m := full(t, 1)
		b := vyb.New(m, 2)
		put(b, r, 5)
		want(t, "Over", b.Over(), false)
		put(b, r)
		want(t, "Over", b.Over(), true)
		b.Remark()
		wantColours(t, m, refs{5}, nil)
	}
}

func TestOneOfTheTwoLiesInNoPage(t *testing.T) {
	_, m := full(t, 1)
	b := vyb.New(m, 1000)
	for _, r := range farRefs {
		b.Post(api.Write{Src: 1, Old: r, New: 5, Black: true})
		want(t, "Count", b.Count(5), 1)
		b.Post(api.Write{Src: 1, Old: 5, New: r, Black: true})
		want(t, "Count", b.Count(5), 0)
	}
}

func TestRefsThatNoObjectHasAreNotShaded(t *testing.T) {
	for _, room := range []int{0, 100} {
		_, m := full(t, 1)
		b := vyb.New(m, room)
		put(b, innerRefs...)
		put(b, 5)
		for _, r := range innerRefs {
			want(t, "Count", b.Count(r), 1)
		}
		b.Remark()
		wantColours(t, m, refs{5}, nil)
		wantScanned(t, m, 5)
	}
}

func TestACellThatWasGivenBack(t *testing.T) {
	for _, room := range []int{0, 100} {
		a, m := full(t, 1)
		b := vyb.New(m, room)
		put(b, 9, 5)
		a.Give(9)
		b.Remark()
		wantColours(t, m, refs{5}, nil)
		want(t, "Ref", born(t, a, 1), 9)
		wantColours(t, m, refs{5}, nil)
		drop(b, 9)
		b.Remark()
		wantColours(t, m, refs{5}, nil)
		put(b, 9)
		b.Remark()
		wantColours(t, m, refs{5, 9}, nil)
	}
}

func TestObjectsBornBehindNew(t *testing.T) {
	for _, room := range []int{0, 100} {
		a := arena.New(2)
		m := mark.New(a, 4)
		b := vyb.New(m, room)
		r := born(t, a, 6)
		last := r
		for a.Room(2) {
			last = born(t, a, 6)
		}
		put(b, last, r)
		want(t, "counts", counts(b, r, last), [4]int{1, 1})
		b.Remark()
		wantColours(t, m, refs{r, last}, nil)
	}
}

func TestAnArenaWithNoPages(t *testing.T) {
	_, m := full(t, 0)
	b := vyb.New(m, 30)
	l := append(append(refs{1, 33}, innerRefs...), farRefs...)
	put(b, l...)
	want(t, "Over", b.Over(), false)
	drop(b, l...)
	b.Remark()
	wantNew(t, b, m)
	put(b, l...)
	want(t, "Over", b.Over(), true)
	b.Remark()
	b.Reset()
	wantNew(t, b, m)
	want(t, "Count", m.Count(), 0)
	want(t, "Drained", m.Drained(), true)
}

func TestTheArenaIsNotChanged(t *testing.T) {
	a, m := full(t, 2)
	for r := range a.All() {
		point(t, a, r, 1, 62-r)
		cell.SetScalar(a, r, int(-r))
	}
	b := vyb.New(m, 1)
	b.Pre(1, 5)
	put(b, 5, 33, 9)
	drop(b, 5)
	b.Remark()
	b.Reset()
	want(t, "Free", a.Free(), 0)
	want(t, "how many", len(slices.Collect(a.All())), 16)
	for r := range a.All() {
		none, _ := cell.Field(a, r, 0)
		want(t, "Field 0", none, 0)
		to, _ := cell.Field(a, r, 1)
		want(t, "Field 1", to, 62-r)
		x, _ := cell.Scalar(a, r)
		want(t, "Scalar", x, int(-r))
	}
}

func TestBarriersOfOneMarker(t *testing.T) {
	_, m := full(t, 2)
	x, y := vyb.New(m, 1), vyb.New(m, 4)
	put(x, 1, 5)
	put(y, 33, 33)
	want(t, "x's", counts(x, 1, 5, 33), [4]int{1, 1, 0})
	want(t, "y's", counts(y, 1, 5, 33), [4]int{0, 0, 2})
	want(t, "x ran over", x.Over(), true)
	want(t, "y ran over", y.Over(), false)
	y.Remark()
	wantColours(t, m, refs{33}, nil)
	y.Reset()
	x.Remark()
	wantColours(t, m, refs{33, 1, 5}, nil)
}

func TestBarriersOfTwoMarkers(t *testing.T) {
	a, m := full(t, 2)
	other := mark.New(a, 4)
	x, y := vyb.New(m, 4), vyb.New(other, 4)
	put(x, 1)
	put(y, 33)
	x.Remark()
	wantColours(t, m, refs{1}, nil)
	wantColours(t, other, nil, nil)
	y.Remark()
	wantColours(t, m, refs{1}, nil)
	wantColours(t, other, refs{33}, nil)
}

// write writes to a field, as a thread does.
func write(t *testing.T, b *vyb.Barrier, m *mark.Marker, src api.Ref, i int, to api.Ref) {
	t.Helper()
	old, _ := cell.Field(m.Arena(), src, i)
	b.Pre(src, old)
	point(t, m.Arena(), src, i, to)
	b.Post(api.Write{Src: src, Old: old, New: to, Black: m.Scanned(src)})
}

func TestWhatIsPutIntoABlackOneIsKept(t *testing.T) {
	// 1 and 5 are roots; 9 lies in 5 alone, is put into 1, which is black, and taken out of 5; 33 lies in 9.
	a, m := full(t, 2)
	point(t, a, 5, 0, 9)
	point(t, a, 9, 0, 33)
	b := vyb.New(m, 4)
	m.Shade(5)
	m.Shade(1)
	want(t, "Trace(1)", m.Trace(1), 1)
	write(t, b, m, 1, 0, 9)
	write(t, b, m, 5, 0, 0)
	want(t, "Trace", m.Trace(9), 1)
	wantColours(t, m, nil, refs{1, 5})
	b.Remark()
	wantColours(t, m, refs{9}, refs{1, 5})
	want(t, "Trace", m.Trace(math.MaxInt), 2)
	wantColours(t, m, nil, refs{1, 5, 9, 33})
}

func TestWhatIsTakenOutOfABlackOneAgainDoesNotFloat(t *testing.T) {
	_, m := full(t, 1)
	b := vyb.New(m, 4)
	m.Shade(1)
	want(t, "Trace", m.Trace(1), 1)
	write(t, b, m, 1, 0, 9)
	write(t, b, m, 1, 0, 0)
	b.Remark()
	want(t, "Trace", m.Trace(math.MaxInt), 0)
	wantColours(t, m, nil, refs{1})
}

// leads is all that roots lead to.
func leads(a *arena.Arena, roots refs) refs {
	l := slices.Compact(slices.Sorted(slices.Values(roots)))
	for i := 0; i < len(l); i++ {
		for to := range cell.Points(a, l[i]) {
			if !slices.Contains(l, to) {
				l = append(l, to)
			}
		}
	}
	return l
}

// TestAllThatRootsLeadToIsKept: at random, roots are moved along fields, and fields written, while objects are
// traced, as a thread does that has in hand what roots lead to, and nothing else. All that roots lead to at
// the end is kept, when they are looked at again, and nothing that they didn't lead to at first.
func TestAllThatRootsLeadToIsKept(t *testing.T) {
	rnd := rand.New(rand.NewSource(5))
	for range 500 {
		a, _ := full(t, 3)
		m := mark.New(a, 1+rnd.Intn(4))
		all := slices.Collect(a.All())
		for range 30 {
			point(t, a, all[rnd.Intn(len(all))], rnd.Intn(2), all[rnd.Intn(len(all))])
		}
		roots := refs{all[rnd.Intn(len(all))], all[rnd.Intn(len(all))], all[rnd.Intn(len(all))]}
		first := leads(a, roots)
		b := vyb.New(m, rnd.Intn(8)-1)
		for _, r := range roots {
			m.Shade(r)
		}
		for range 40 {
			moveOn(t, rnd, b, m, roots)
		}
		for _, r := range roots {
			m.Shade(r)
		}
		b.Remark()
		m.Trace(math.MaxInt)
		for _, r := range leads(a, roots) {
			want(t, "Marked", m.Marked(r), true)
		}
		for r := range m.All() {
			want(t, "roots led to it", slices.Contains(first, r), true)
		}
	}
}

// moveOn does one thing of the thread, or of tracing.
func moveOn(t *testing.T, rnd *rand.Rand, b *vyb.Barrier, m *mark.Marker, roots refs) {
	t.Helper()
	i, j := rnd.Intn(len(roots)), rnd.Intn(len(roots))
	switch rnd.Intn(4) {
	case 0:
		if to, _ := cell.Field(m.Arena(), roots[i], rnd.Intn(2)); to != 0 {
			roots[j] = to
		}
	case 1:
		write(t, b, m, roots[i], rnd.Intn(2), roots[j])
	case 2:
		write(t, b, m, roots[i], rnd.Intn(2), 0)
	case 3:
		m.Trace(rnd.Intn(3))
	}
}

// A model has counts by a map, and all that was ever written, of which the log is the first few.
type model struct {
	counts  map[api.Ref]int
	written refs
	room    int
}

func (o *model) post(w api.Write, size int) {
	if !w.Black {
		return
	}
	in := func(r api.Ref) bool { return r > 0 && r < api.Ref(size) }
	if w.New != 0 {
		o.written = append(o.written, w.New)
	}
	if in(w.New) {
		o.counts[w.New] = min(o.counts[w.New]+1, 3)
	}
	if c := o.counts[w.Old]; in(w.Old) && (c == 1 || c == 2) {
		o.counts[w.Old] = c - 1
	}
}

func (o *model) over() bool { return len(o.written) > o.room }

func (o *model) remark(m *mark.Marker) {
	l := slices.Clone(o.written[:min(o.room, len(o.written))])
	if o.over() {
		l = slices.AppendSeq(l, m.Arena().All())
	}
	for _, r := range l {
		if o.counts[r] > 0 {
			m.Shade(r)
		}
	}
}

func TestAgainstAModel(t *testing.T) {
	rnd := rand.New(rand.NewSource(6))
	for range 200 {
		a, _ := full(t, 2)
		a.Give(37)
		stack := 1 + rnd.Intn(6)
		m, like := mark.New(a, stack), mark.New(a, stack)
		room := rnd.Intn(12)
		b, o := vyb.New(m, room), &model{counts: map[api.Ref]int{}, room: room}
		all := slices.Concat(slices.Collect(a.All()), slices.Collect(a.All()), innerRefs, farRefs, refs{0, 0, 0, 37})
		pick := func() api.Ref { return all[rnd.Intn(len(all))] }
		for range 60 {
			switch rnd.Intn(12) {
			default:
				w := api.Write{Src: pick(), Old: pick(), New: pick(), Black: rnd.Intn(4) > 0, Early: rnd.Intn(2) > 0}
				b.Post(w)
				o.post(w, a.Size())
			case 0:
				b.Pre(pick(), pick())
			case 1:
				b.Remark()
				o.remark(like)
			case 2:
				if rnd.Intn(4) == 0 {
					b.Reset()
					o.counts, o.written = map[api.Ref]int{}, nil
				}
			case 3:
				n := rnd.Intn(3)
				want(t, "Trace", m.Trace(n), like.Trace(n))
			}
			want(t, "Over", b.Over(), o.over())
			for _, r := range all {
				want(t, "Count", b.Count(r), o.counts[r])
				want(t, "Marked", m.Marked(r), like.Marked(r))
				want(t, "Scanned", m.Scanned(r), like.Scanned(r))
			}
		}
	}
}
