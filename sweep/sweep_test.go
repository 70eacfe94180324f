package sweep_test

import (
	"math"
	"math/rand"
	"slices"
	"testing"

	"hawthorn/api"
	"hawthorn/arena"
	"hawthorn/cell"
	"hawthorn/mark"
	"hawthorn/sweep"
)

const pageWords = 32

// What lies in no page, whatever an arena's size is.
var noRefs = []api.Ref{
	0, -1, -2, -31, -32, -33, -1 << 32, -1<<32 + 1, math.MinInt, math.MinInt + 1,
	64*pageWords + 1, 64*pageWords + 2, 1 << 32, 1<<32 + 1, math.MaxInt - 1, math.MaxInt,
}

func want[T comparable](t *testing.T, what string, got, want T) {
	t.Helper()
	if got != want {
		t.Fatalf("%s: %v, want %v", what, got, want)
	}
}

func wantList(t *testing.T, what string, got []api.Ref, want ...api.Ref) {
	t.Helper()
	if !slices.Equal(got, want) {
		t.Fatalf("%s: %v, want %v", what, got, want)
	}
}

// heap is a sweeper of an arena of so many pages.
func heap(pages int) (*arena.Arena, *mark.Marker, *sweep.Sweeper) {
	a := arena.New(pages)
	m := mark.New(a, 8)
	return a, m, sweep.New(m)
}

// born is a new object of so many fields.
func born(t *testing.T, a *arena.Arena, fields int) api.Ref {
	t.Helper()
	r, e := cell.New(a, fields)
	want(t, "New", e, api.OK)
	return r
}

// fill is all objects of so many fields that there is room for.
func fill(t *testing.T, a *arena.Arena, fields, class int) []api.Ref {
	t.Helper()
	var l []api.Ref
	for a.Room(class) {
		l = append(l, born(t, a, fields))
	}
	return l
}

// begun is a sweep that has just begun, and gone through so many pages.
func begun(t *testing.T, s *sweep.Sweeper, pages int) {
	t.Helper()
	s.Begin()
	want(t, "On", s.On(), true)
	for range pages {
		s.Page()
	}
}

// wantAhead: of pages, those from next on are still to come. If none is, it isn't under way.
func wantAhead(t *testing.T, s *sweep.Sweeper, next, pages int) {
	t.Helper()
	for range 2 { // to ask changes nothing
		want(t, "On", s.On(), next < pages)
		want(t, "Left", s.Left(), pages-next)
		for r := api.Ref(1); int(r) <= pages*pageWords; r++ {
			want(t, "Ahead", s.Ahead(r), int(r-1)/pageWords >= next)
		}
		want(t, "Ahead of the last page's end", s.Ahead(api.Ref(pages*pageWords+1)), false)
		for _, r := range noRefs {
			want(t, "Ahead of what lies nowhere", s.Ahead(r), false)
		}
	}
}

func TestNewIsNotUnderWay(t *testing.T) {
	for _, pages := range []int{0, 1, 2, 64} {
		a, m, s := heap(pages)
		if pages > 0 {
			r := born(t, a, 0)
			m.Blacken(r)
		}
		want(t, "On", s.On(), false)
		want(t, "Left", s.Left(), 0)
		wantAhead(t, s, pages, pages)
	}
}

// It makes no difference to a page of objects, white or black.
func TestPageWhileNotUnderWay(t *testing.T) {
	a, m, s := heap(2)
	white, black := born(t, a, 1), born(t, a, 6)
	m.Blacken(black)
	untouched := func() {
		for range 4 {
			wantList(t, "Page", s.Page())
			want(t, "On", s.On(), false)
			want(t, "Left", s.Left(), 0)
			want(t, "Has", a.Has(white) && a.Has(black), true)
			want(t, "Marked", m.Marked(black) && m.Scanned(black), true)
			wantAhead(t, s, 2, 2)
		}
	}
	untouched()
	m.Blacken(white)
	begun(t, s, 2)
	m.Forget(white)
	m.Blacken(black)
	untouched()
}

func TestPageByPage(t *testing.T) {
	for _, pages := range []int{1, 2, 3, 17, 64} {
		_, _, s := heap(pages)
		for range 3 {
			s.Begin()
			for next := range pages {
				wantAhead(t, s, next, pages)
				wantList(t, "Page", s.Page())
			}
			wantAhead(t, s, pages, pages)
			wantList(t, "Page", s.Page())
			wantAhead(t, s, pages, pages)
		}
	}
}

// The example.
func TestTwoPages(t *testing.T) {
	_, _, s := heap(2)
	s.Begin()
	want(t, "On", s.On(), true)
	s.Page()
	want(t, "On", s.On(), true)
	s.Page()
	want(t, "On", s.On(), false)
}

// More pages are asked for than an arena can have.
func TestAsManyPagesAsTheArenaHas(t *testing.T) {
	_, _, s := heap(1000)
	s.Begin()
	wantAhead(t, s, 0, 64)
	for range 64 {
		want(t, "On", s.On(), true)
		s.Page()
	}
	wantAhead(t, s, 64, 64)
}

// Begin says that it is under way; there is no page to come, and the next call ends it.
func TestNoPages(t *testing.T) {
	for _, pages := range []int{0, -1, math.MinInt} {
		_, _, s := heap(pages)
		s.Begin()
		want(t, "On", s.On(), true)
		want(t, "Left", s.Left(), 0)
		want(t, "Ahead", s.Ahead(1), false)
		wantList(t, "Page", s.Page())
		wantAhead(t, s, 0, 0)
	}
}

// One that begins again is at its first page again, and what was swept is swept again.
func TestBeginWhileUnderWay(t *testing.T) {
	for done := range 3 {
		a, m, s := heap(3)
		first, last := born(t, a, 0), born(t, a, 6)
		m.Blacken(first)
		m.Blacken(last)
		begun(t, s, done)
		s.Begin()
		wantAhead(t, s, 0, 3)
		marked := m.Marked(first)
		want(t, "marked", marked, done == 0)
		freed := s.Page()
		want(t, "given back", len(freed) == 0, marked)
		want(t, "Has", a.Has(first), marked)
		wantAhead(t, s, 1, 3)
		want(t, "Marked", m.Marked(last), done < 2)
		s.Page()
		s.Page()
		wantAhead(t, s, 3, 3)
	}
}

// In each class, for each cell: those that are marked stay, and are white; the others are given back, rising.
func TestWhiteOnesAreGivenBack(t *testing.T) {
	for class, fields := range []int{0, 2, 6} {
		for only := range 64 {
			a, m, s := heap(2)
			all := fill(t, a, fields, class)
			one := only % len(all)
			for i, r := range all {
				if i%7 == one%7 {
					m.Blacken(r)
				}
			}
			s.Begin()
			for page := range 2 {
				var freed, kept []api.Ref
				for i, r := range all {
					switch {
					case a.Page(r) != page:
					case i%7 == one%7:
						kept = append(kept, r)
					default:
						freed = append(freed, r)
					}
				}
				wantList(t, "Page", s.Page(), freed...)
				wantList(t, "Cells", slices.Collect(a.Cells(page)), kept...)
				for _, r := range kept {
					want(t, "Marked", m.Marked(r), false)
					want(t, "Scanned", m.Scanned(r), false)
				}
			}
			want(t, "Count", m.Count(), 0)
		}
	}
}

func TestAPageOfWhiteOnesIsFree(t *testing.T) {
	for class, fields := range []int{0, 1, 3} {
		a, _, s := heap(4)
		all := fill(t, a, fields, class)
		s.Begin()
		for page := range 4 {
			want(t, "Class", a.Class(page), class)
			wantList(t, "Page", s.Page(), all[page*len(all)/4:(page+1)*len(all)/4]...)
			want(t, "Class", a.Class(page), -1)
			want(t, "Free", a.Free(), page+1)
		}
	}
}

func TestAPageOfBlackOnesStays(t *testing.T) {
	a, m, s := heap(2)
	for _, r := range fill(t, a, 2, 1) {
		m.Blacken(r)
	}
	s.Begin()
	wantList(t, "Page", s.Page())
	want(t, "Count", m.Count(), 8)
	want(t, "Class", a.Class(0), 1)
	wantList(t, "Page", s.Page())
	want(t, "Count", m.Count(), 0)
	want(t, "Free", a.Free(), 0)
	// They are white, so that the next sweep gives them back.
	begun(t, s, 1)
	want(t, "Free", a.Free(), 1)
	want(t, "how many", len(s.Page()), 8)
	want(t, "Free", a.Free(), 2)
}

// Marked is enough, be it scanned or not.
func TestAGreyOneStays(t *testing.T) {
	a, m, s := heap(1)
	white, grey := born(t, a, 1), born(t, a, 1)
	want(t, "Shade", m.Shade(grey), true)
	s.Begin()
	wantList(t, "Page", s.Page(), white)
	want(t, "Has", a.Has(grey), true)
	want(t, "Marked", m.Marked(grey), false)
}

// The other pages are as they were, ahead and behind.
func TestAPageAlone(t *testing.T) {
	for page := range 3 {
		a, m, s := heap(3)
		l := []api.Ref{born(t, a, 0), born(t, a, 0), born(t, a, 2), born(t, a, 2), born(t, a, 6), born(t, a, 6)}
		for _, r := range l {
			m.Blacken(r)
		}
		begun(t, s, page)
		for i, r := range l {
			m.Forget(r)
			if i%2 == 0 {
				m.Blacken(r)
			}
		}
		wantList(t, "Page", s.Page(), l[2*page+1])
		for i, r := range l {
			want(t, "Has", a.Has(r), i != 2*page+1)
			want(t, "Marked", m.Marked(r), i%2 == 0 && i != 2*page)
			want(t, "Scanned", m.Scanned(r), i%2 == 0 && i != 2*page)
		}
	}
}

// What stays is as it was, its fields and its number with it, even where one that it points to is given back.
func TestWhatStaysIsAsItWas(t *testing.T) {
	a, m, s := heap(2)
	gone, kept := born(t, a, 2), born(t, a, 2)
	want(t, "SetField", cell.SetField(a, kept, 0, gone), api.OK)
	want(t, "SetField", cell.SetField(a, kept, 1, kept), api.OK)
	want(t, "SetScalar", cell.SetScalar(a, kept, 77), api.OK)
	m.Blacken(kept)
	s.Begin()
	wantList(t, "Page", s.Page(), gone)
	want(t, "Fields", cell.Fields(a, kept), 2)
	wantList(t, "Points", slices.Collect(cell.Points(a, kept)), gone, kept)
	x, e := cell.Scalar(a, kept)
	want(t, "Scalar", x, 77)
	want(t, "Scalar", e, api.OK)
}

// A page is looked at when it is its turn: one that was born there since is kept if it is black.
func TestWhatIsBornWhilePagesAreSwept(t *testing.T) {
	a, m, s := heap(2)
	old := born(t, a, 6)
	s.Begin()
	ahead := born(t, a, 0)
	want(t, "Page", a.Page(ahead), 1)
	want(t, "Ahead", s.Ahead(ahead), true)
	m.Blacken(ahead)
	white := born(t, a, 0)
	wantList(t, "Page", s.Page(), old)
	behind := born(t, a, 6)
	want(t, "Page", a.Page(behind), 0)
	want(t, "Ahead", s.Ahead(behind), false)
	wantList(t, "Page", s.Page(), white)
	want(t, "On", s.On(), false)
	want(t, "Has", a.Has(behind) && a.Has(ahead), true)
	want(t, "Marked", m.Marked(behind) || m.Marked(ahead), false)
}

// A Ref that is given back lies where it lay.
func TestAheadOfWhatWasGivenBack(t *testing.T) {
	a, _, s := heap(2)
	r := born(t, a, 0)
	s.Begin()
	a.Give(r)
	want(t, "Ahead", s.Ahead(r), true)
	wantList(t, "Page", s.Page())
	want(t, "Ahead", s.Ahead(r), false)
}

// What a new object is that lies where one was given back: white, whatever the other one was.
func TestANewObjectWhereOneWas(t *testing.T) {
	a, m, s := heap(1)
	r := born(t, a, 3)
	m.Blacken(r)
	begun(t, s, 1)
	begun(t, s, 1)
	want(t, "Has", a.Has(r), false)
	want(t, "born", born(t, a, 4), r)
	want(t, "Marked", m.Marked(r), false)
	want(t, "Shade", m.Shade(r), true)
	want(t, "Trace", m.Trace(1), 1)
}

func TestTheListIsTheCallersOwn(t *testing.T) {
	a, m, s := heap(2)
	fill(t, a, 0, 0)
	s.Begin()
	l := s.Page()
	kept := slices.Clone(l)
	clear(l)
	more := s.Page()
	want(t, "how many", len(more), 16)
	wantList(t, "the list", l, make([]api.Ref, 16)...)
	for i, r := range more {
		want(t, "given back", r, kept[i]+pageWords)
	}
	want(t, "Count", m.Count(), 0)
}

// Two sweepers of one marker go each its own way.
func TestEachSweeperIsItsOwn(t *testing.T) {
	a, m, s := heap(3)
	other := sweep.New(m)
	r := born(t, a, 0)
	m.Blacken(r)
	begun(t, s, 2)
	wantAhead(t, other, 3, 3)
	other.Begin()
	wantAhead(t, s, 2, 3)
	wantAhead(t, other, 0, 3)
	wantList(t, "Page", other.Page(), r)
	s.Page()
	wantAhead(t, s, 3, 3)
	wantAhead(t, other, 1, 3)
}

// model is what the document says, by lists: of the pages' objects, and of those that are black.
type model struct {
	on    bool
	next  int
	pages [][]api.Ref
	black []api.Ref
}

// page is the next one: what was given back.
func (m *model) page() []api.Ref {
	if !m.on {
		return nil
	}
	var freed, kept []api.Ref
	for _, r := range m.pages[m.next] {
		if slices.Contains(m.black, r) {
			kept = append(kept, r)
		} else {
			freed = append(freed, r)
		}
	}
	m.pages[m.next] = kept
	m.black = slices.DeleteFunc(m.black, func(r api.Ref) bool { return slices.Contains(kept, r) })
	m.next++
	m.on = m.next < len(m.pages)
	return freed
}

func TestAgainstAModel(t *testing.T) {
	rnd := rand.New(rand.NewSource(1))
	for range 60 {
		pages := 1 + rnd.Intn(6)
		a, m, s := heap(pages)
		like := &model{pages: make([][]api.Ref, pages)}
		for range 400 {
			step(t, rnd, a, m, s, like)
			wantLike(t, a, m, s, like)
		}
	}
}

// step does one thing to both.
func step(t *testing.T, rnd *rand.Rand, a *arena.Arena, m *mark.Marker, s *sweep.Sweeper, like *model) {
	t.Helper()
	switch i := rnd.Intn(100); {
	case i < 50:
		r, e := cell.New(a, rnd.Intn(api.MaxFields+1))
		if e != api.OK {
			return
		}
		p := int(r-1) / pageWords
		like.pages[p] = slices.Sorted(slices.Values(append(like.pages[p], r)))
		if s.Ahead(r) || rnd.Intn(3) == 0 {
			m.Blacken(r)
			like.black = append(like.black, r)
		}
	case i < 75:
		if l := slices.Concat(like.pages...); len(l) > 0 {
			r := l[rnd.Intn(len(l))]
			m.Blacken(r)
			like.black = append(like.black, r)
		}
	case i < 97:
		wantList(t, "Page", s.Page(), like.page()...)
	default:
		s.Begin()
		like.on, like.next = true, 0
	}
}

// wantLike: it is as the model is.
func wantLike(t *testing.T, a *arena.Arena, m *mark.Marker, s *sweep.Sweeper, like *model) {
	t.Helper()
	pages := len(like.pages)
	want(t, "On", s.On(), like.on)
	left := 0
	if like.on {
		left = pages - like.next
	}
	want(t, "Left", s.Left(), left)
	wantList(t, "the arena's objects", slices.Collect(a.All()), slices.Concat(like.pages...)...)
	for p, l := range like.pages {
		want(t, "Ahead", s.Ahead(api.Ref(p*pageWords+1)), like.on && p >= like.next)
		for _, r := range l {
			want(t, "Marked", m.Marked(r), slices.Contains(like.black, r))
		}
	}
}
