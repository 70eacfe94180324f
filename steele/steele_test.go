package steele_test

import (
	"math"
	"math/rand"
	"slices"
	"testing"

	"hawthorn/api"
	"hawthorn/arena"
	"hawthorn/cell"
	"hawthorn/mark"
	"hawthorn/steele"
)

// Refs that lie in no page of any arena.
var noRefs = []api.Ref{0, -1, -32, api.MaxPages*api.PageWords + 1, 1 << 32, 1<<32 + 1, math.MaxInt, math.MinInt, math.MinInt + 1}

func want[T comparable](t *testing.T, what string, got, want T) {
	t.Helper()
	if got != want {
		t.Fatalf("%s: %v, want %v", what, got, want)
	}
}

func born(t *testing.T, a *arena.Arena, fields int) api.Ref {
	t.Helper()
	r, e := cell.New(a, fields)
	want(t, "New", e, api.OK)
	return r
}

// full is an arena with objects of two fields in each cell, eight a page, and a marker of it.
func full(t *testing.T, pages int) (*arena.Arena, *mark.Marker) {
	t.Helper()
	a := arena.New(pages)
	for a.Room(1) {
		born(t, a, 2)
	}
	return a, mark.New(a, api.MaxMark)
}

func blackenAll(m *mark.Marker) {
	for r := range m.Arena().All() {
		m.Blacken(r)
	}
}

func inPage(a *arena.Arena, page int) []api.Ref { return slices.Collect(a.Cells(page)) }

func post(b *steele.Barrier, srcs ...api.Ref) {
	for _, r := range srcs {
		b.Post(api.Write{Src: r})
	}
}

// wantGrey: all objects are black, but for these, which are grey.
func wantGrey(t *testing.T, m *mark.Marker, grey ...api.Ref) {
	t.Helper()
	for r := range m.Arena().All() {
		want(t, "Marked", m.Marked(r), true)
		want(t, "Scanned", m.Scanned(r), !slices.Contains(grey, r))
	}
	want(t, "Drained", m.Drained(), len(grey) == 0)
}

// wantScanned: one by one just these are scanned, and none is grey behind them.
func wantScanned(t *testing.T, m *mark.Marker, l ...api.Ref) {
	t.Helper()
	for _, r := range l {
		want(t, "Scanned", m.Scanned(r), false)
		want(t, "Trace(1)", m.Trace(1), 1)
		want(t, "Scanned", m.Scanned(r), true)
	}
	want(t, "Trace", m.Trace(math.MaxInt), 0)
}

func TestNoPageIsDirtyAtFirst(t *testing.T) {
	for _, pages := range []int{0, 1, 5, api.MaxPages} {
		_, m := full(t, pages)
		blackenAll(m)
		b := steele.New(m)
		want(t, "Dirty", b.Dirty(), 0)
		b.Remark()
		want(t, "Dirty", b.Dirty(), 0)
		wantGrey(t, m)
	}
}

func TestTheExampleOfABlackOne(t *testing.T) {
	a := arena.New(1)
	m := mark.New(a, 1)
	r := born(t, a, 1)
	m.Blacken(r)
	b := steele.New(m)
	post(b, r)
	want(t, "Scanned", m.Scanned(r), true)
	b.Remark()
	wantGrey(t, m, r)
	wantScanned(t, m, r)
}

func TestPreDoesNothing(t *testing.T) {
	a, m := full(t, 3)
	b := steele.New(m)
	m.Blacken(1)
	m.Shade(33)
	refs := append(slices.Collect(a.All()), noRefs...)
	for _, src := range refs {
		for _, old := range refs {
			b.Pre(src, old)
		}
	}
	want(t, "Dirty", b.Dirty(), 0)
	want(t, "Count", m.Count(), 2)
	b.Remark()
	want(t, "Count", m.Count(), 2)
	want(t, "Scanned", m.Scanned(1), true)
	want(t, "Scanned", m.Scanned(33), false)
	post(b, 1)
	b.Pre(1, 33)
	want(t, "Dirty behind Post", b.Dirty(), 1)
}

func TestThePageOfEachSrcIsDirty(t *testing.T) {
	a, m := full(t, api.MaxPages)
	for r := range a.All() {
		blackenAll(m)
		b := steele.New(m)
		post(b, r)
		want(t, "Dirty", b.Dirty(), 1)
		b.Remark()
		wantGrey(t, m, inPage(a, a.Page(r))...)
		for m.Trace(math.MaxInt) > 0 {
		}
	}
}

func TestAGlobalLiesInNoPage(t *testing.T) {
	_, m := full(t, 2)
	blackenAll(m)
	b := steele.New(m)
	for _, w := range []api.Write{{}, {New: 1}, {Old: 1}, {Old: 1, New: 33}, {New: 1, Black: true, Early: true}} {
		b.Post(w)
		want(t, "Dirty", b.Dirty(), 0)
	}
	b.Remark()
	wantGrey(t, m)
}

func TestASrcThatLiesInNoPage(t *testing.T) {
	_, m := full(t, api.MaxPages)
	blackenAll(m)
	b := steele.New(m)
	post(b, noRefs...)
	want(t, "Dirty", b.Dirty(), 0)
	b.Remark()
	wantGrey(t, m)

	_, m = full(t, 1)
	b = steele.New(m)
	post(b, 33, 64)
	want(t, "Dirty past the last page", b.Dirty(), 0)
}

func TestAnArenaWithNoPages(t *testing.T) {
	_, m := full(t, 0)
	b := steele.New(m)
	post(b, 1, 33)
	post(b, noRefs...)
	want(t, "Dirty", b.Dirty(), 0)
	b.Remark()
	b.Reset()
	want(t, "Rescans", b.Rescans(), true)
}

func TestTheOtherNumbersOfAWritePlayNoPart(t *testing.T) {
	a, m := full(t, 4)
	writes := []api.Write{
		{Src: 33},
		{Src: 33, Old: 1},
		{Src: 33, New: 1},
		{Src: 33, Old: 65, New: 97},
		{Src: 33, Old: -1, New: math.MaxInt},
		{Src: 33, Black: true},
		{Src: 33, Early: true},
		{Src: 33, Old: 65, New: 97, Black: true, Early: true},
	}
	for _, w := range writes {
		blackenAll(m)
		b := steele.New(m)
		b.Post(w)
		want(t, "Dirty", b.Dirty(), 1)
		b.Remark()
		wantGrey(t, m, inPage(a, 1)...)
	}
}

func TestPostChangesNoColours(t *testing.T) {
	_, m := full(t, 3)
	m.Shade(1)
	m.Blacken(5)
	b := steele.New(m)
	for _, src := range []api.Ref{0, 1, 5, 9} {
		b.Post(api.Write{Src: src, Old: 33, New: 65, Black: true})
		b.Post(api.Write{Src: src, Old: 5, New: 5, Early: true})
	}
	want(t, "Count", m.Count(), 2)
	want(t, "Scanned", m.Scanned(1), false)
	want(t, "Scanned", m.Scanned(5), true)
	wantScanned(t, m, 1)
}

func TestDirtyCountsPages(t *testing.T) {
	_, m := full(t, api.MaxPages)
	b := steele.New(m)
	for page := range api.MaxPages {
		first := api.Ref(page*api.PageWords + 1)
		for range 2 {
			post(b, first, first+4, first+28, first+31)
			want(t, "Dirty", b.Dirty(), page+1)
		}
	}
	b.Remark()
	want(t, "Dirty behind Remark", b.Dirty(), 0)
}

func TestEachBlackOneOfADirtyPageIsGreyAgain(t *testing.T) {
	_, m := full(t, 3)
	b := steele.New(m)
	// Of page 1 one is white, one grey, and two are black; pages 0 and 2 have a black one each.
	for _, r := range []api.Ref{1, 41, 45, 65} {
		m.Blacken(r)
	}
	m.Shade(37)
	post(b, 33)
	b.Remark()
	want(t, "Count", m.Count(), 5)
	for _, r := range []api.Ref{1, 65} {
		want(t, "Scanned in a clean page", m.Scanned(r), true)
	}
	want(t, "Marked, a white one", m.Marked(33), false)
	wantScanned(t, m, 45, 41, 37)
}

func TestTheyAreGreyInTheOrderOfTheirRefs(t *testing.T) {
	a, m := full(t, 4)
	blackenAll(m)
	b := steele.New(m)
	post(b, 97, 1, 65)
	b.Remark()
	l := slices.Concat(inPage(a, 0), inPage(a, 2), inPage(a, 3))
	wantGrey(t, m, l...)
	slices.Reverse(l)
	wantScanned(t, m, l...)
}

func TestAStackOfOnePlace(t *testing.T) {
	a := arena.New(2)
	for a.Room(0) {
		born(t, a, 0)
	}
	m := mark.New(a, 1)
	blackenAll(m)
	b := steele.New(m)
	post(b, 1, 33)
	b.Remark()
	wantGrey(t, m, slices.Collect(a.All())...)
	want(t, "Trace", m.Trace(math.MaxInt), 32)
	wantGrey(t, m)
}

func TestNoPageIsDirtyBehindRemark(t *testing.T) {
	_, m := full(t, 2)
	b := steele.New(m)
	post(b, 1, 33)
	b.Remark() // all are white yet
	want(t, "Dirty", b.Dirty(), 0)
	want(t, "Count", m.Count(), 0)
	blackenAll(m)
	b.Remark()
	wantGrey(t, m)
	post(b, 33)
	want(t, "Dirty", b.Dirty(), 1)
}

func TestNoPageIsDirtyBehindReset(t *testing.T) {
	a, m := full(t, 3)
	blackenAll(m)
	b := steele.New(m)
	b.Reset()
	want(t, "Dirty", b.Dirty(), 0)
	post(b, 1, 65)
	b.Reset()
	want(t, "Dirty", b.Dirty(), 0)
	wantGrey(t, m)
	b.Remark()
	wantGrey(t, m)
	post(b, 33)
	b.Remark()
	wantGrey(t, m, inPage(a, 1)...)
	b.Reset()
	wantGrey(t, m, inPage(a, 1)...)
}

func TestRootsAreAlwaysLookedAtAgain(t *testing.T) {
	_, m := full(t, 1)
	b := steele.New(m)
	want(t, "at first", b.Rescans(), true)
	post(b, 1)
	want(t, "behind Post", b.Rescans(), true)
	b.Remark()
	want(t, "behind Remark", b.Rescans(), true)
	b.Reset()
	want(t, "behind Reset", b.Rescans(), true)
}

func TestToAskChangesNothing(t *testing.T) {
	a, m := full(t, 2)
	blackenAll(m)
	b := steele.New(m)
	post(b, 33)
	for range 3 {
		want(t, "Dirty", b.Dirty(), 1)
		want(t, "Rescans", b.Rescans(), true)
	}
	b.Remark()
	wantGrey(t, m, inPage(a, 1)...)
}

func TestASrcThatIsNoObject(t *testing.T) {
	// Its page is dirty: whole pages are known to be written to, or not.
	a, m := full(t, 2)
	blackenAll(m)
	b := steele.New(m)
	post(b, 34, 64)
	want(t, "Dirty", b.Dirty(), 1)
	b.Remark()
	wantGrey(t, m, inPage(a, 1)...)
}

func TestAFreePage(t *testing.T) {
	a := arena.New(2)
	m := mark.New(a, 4)
	b := steele.New(m)
	post(b, 1, 33)
	want(t, "Dirty", b.Dirty(), 2)
	b.Remark()
	want(t, "Dirty", b.Dirty(), 0)
	want(t, "Count", m.Count(), 0)
}

func TestWhatLiesThereWhenItIsRemarked(t *testing.T) {
	// What was born in a dirty page since counts; what was given back doesn't.
	a := arena.New(2)
	m := mark.New(a, 4)
	old := born(t, a, 2)
	b := steele.New(m)
	post(b, old)
	a.Give(old)
	young := []api.Ref{born(t, a, 0), born(t, a, 0), born(t, a, 1)}
	blackenAll(m)
	b.Remark()
	wantGrey(t, m, young[0], young[1])
	want(t, "Page of another class", a.Page(young[2]), 1)
	wantScanned(t, m, young[1], young[0])
}

func TestThatTheMarkerIsResetPlaysNoPart(t *testing.T) {
	a, m := full(t, 2)
	b := steele.New(m)
	post(b, 33)
	m.Reset()
	want(t, "Dirty", b.Dirty(), 1)
	blackenAll(m)
	b.Remark()
	wantGrey(t, m, inPage(a, 1)...)
}

func TestTheArenaIsNotChanged(t *testing.T) {
	a, m := full(t, 2)
	for r := range a.All() {
		cell.SetField(a, r, 1, 66-r)
		cell.SetScalar(a, r, int(-r))
	}
	blackenAll(m)
	b := steele.New(m)
	b.Pre(1, 5)
	b.Post(api.Write{Src: 1, Old: 5, New: 33})
	b.Remark()
	post(b, 33)
	b.Reset()
	want(t, "Free", a.Free(), 0)
	want(t, "how many", len(slices.Collect(a.All())), 16)
	for r := range a.All() {
		to, _ := cell.Field(a, r, 1)
		want(t, "Field", to, 66-r)
		x, _ := cell.Scalar(a, r)
		want(t, "Scalar", x, int(-r))
	}
}

func TestBarriersAreApart(t *testing.T) {
	a, m := full(t, 2)
	blackenAll(m)
	x, y := steele.New(m), steele.New(m)
	post(x, 1)
	want(t, "Dirty of the other one", y.Dirty(), 0)
	y.Remark()
	wantGrey(t, m)
	post(y, 33)
	y.Reset()
	want(t, "Dirty", x.Dirty(), 1)
	x.Remark()
	wantGrey(t, m, inPage(a, 0)...)
}

// A model knows which pages are dirty, and beside the marker under test it has one of its own.
type model struct {
	marker *mark.Marker
	dirty  [4]bool
}

func (o *model) post(r api.Ref) {
	if r >= 1 && r <= 4*api.PageWords {
		o.dirty[(r-1)/api.PageWords] = true
	}
}

func (o *model) remark() {
	for r := api.Ref(1); r <= 4*api.PageWords; r++ {
		if o.dirty[(r-1)/api.PageWords] {
			o.marker.Regrey(r)
		}
	}
	o.dirty = [4]bool{}
}

func (o *model) count() int {
	count := 0
	for _, is := range o.dirty {
		if is {
			count++
		}
	}
	return count
}

// step does one thing to both.
func step(rnd *rand.Rand, b *steele.Barrier, m *mark.Marker, o *model) {
	r := api.Ref(rnd.Intn(140) - 5)
	switch n := rnd.Intn(20); n {
	case 0:
		b.Reset()
		o.dirty = [4]bool{}
	case 1, 2:
		b.Remark()
		o.remark()
	case 3:
		b.Pre(r, api.Ref(rnd.Intn(140)-5))
	case 4, 5, 6:
		n := rnd.Intn(5)
		m.Trace(n)
		o.marker.Trace(n)
	case 7, 8, 9, 10, 11:
		m.Blacken(r)
		o.marker.Blacken(r)
	case 12:
		m.Shade(r)
		o.marker.Shade(r)
	default:
		b.Post(api.Write{Src: r, Old: api.Ref(rnd.Intn(140) - 5), New: api.Ref(rnd.Intn(140) - 5), Black: n > 15, Early: n%2 == 0})
		o.post(r)
	}
}

// randomHeap is an arena with objects of all classes, which point to each other.
func randomHeap(rnd *rand.Rand) *arena.Arena {
	a := arena.New(4)
	for range 24 {
		cell.New(a, rnd.Intn(api.MaxFields+1))
	}
	all := slices.Collect(a.All())
	for _, r := range all {
		for field := range api.MaxFields {
			cell.SetField(a, r, field, all[rnd.Intn(len(all))])
		}
	}
	for _, r := range all {
		if rnd.Intn(5) == 0 {
			a.Give(r)
		}
	}
	return a
}

func TestAgainstAModel(t *testing.T) {
	rnd := rand.New(rand.NewSource(1))
	for range 200 {
		a := randomHeap(rnd)
		room := rnd.Intn(12)
		m, o := mark.New(a, room), &model{marker: mark.New(a, room)}
		b := steele.New(m)
		for range 150 {
			step(rnd, b, m, o)
			want(t, "Dirty", b.Dirty(), o.count())
			for r := range a.All() {
				want(t, "Marked", m.Marked(r), o.marker.Marked(r))
				want(t, "Scanned", m.Scanned(r), o.marker.Scanned(r))
			}
		}
	}
}
