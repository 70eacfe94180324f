package card_test

import (
	"math"
	"math/rand"
	"slices"
	"testing"

	"hawthorn/api"
	"hawthorn/arena"
	"hawthorn/card"
)

// What the document says of pages, in numbers.
const pageWords, maxPages = 32, 64

var (
	pageCounts = []int{0, 1, 2, 3, 63, maxPages}

	// Of Refs and pages that there are none of, whatever the arena; far ones, as a part of them may look like one.
	farRefs  = []api.Ref{0, -1, -2, -31, -32, -33, -2048, 1 << 32, 1<<32 + 1, -1<<32 + 1, 1 << 62, math.MaxInt, math.MaxInt - 1, math.MinInt, math.MinInt + 1}
	farPages = []int{-1, -2, -32, -64, maxPages, maxPages + 1, 128, 1 << 32, -1 << 32, 1 << 59, math.MaxInt, math.MinInt}
)

func want[T comparable](t *testing.T, what string, got, want T) {
	t.Helper()
	if got != want {
		t.Fatalf("%s: %v, want %v", what, got, want)
	}
}

// first is a Ref in a page.
func first(page int) api.Ref { return api.Ref(pageWords*page + 1) }

// table is one of an arena of so many pages, some of them dirty.
func table(t *testing.T, pages int, dirty ...int) *card.Table {
	t.Helper()
	c := card.New(arena.New(pages))
	soil(t, c, dirty...)
	return c
}

func soil(t *testing.T, c *card.Table, pages ...int) {
	t.Helper()
	for _, page := range pages {
		want(t, "Dirty", c.Dirty(first(page)), true)
	}
}

// wantDirty: just these are, rising; it looks without taking.
func wantDirty(t *testing.T, c *card.Table, pages ...int) {
	t.Helper()
	want(t, "Count", c.Count(), len(pages))
	var l []int
	for page := -3; page < maxPages+3; page++ {
		if c.Is(page) {
			l = append(l, page)
		}
	}
	if !slices.Equal(l, pages) {
		t.Fatalf("dirty: %v, want %v", l, pages)
	}
}

func wantTaken(t *testing.T, c *card.Table, pages ...int) {
	t.Helper()
	if l := slices.Collect(c.Take()); !slices.Equal(l, pages) {
		t.Fatalf("Take: %v, want %v", l, pages)
	}
}

func upTo(n int) []int {
	var l []int
	for i := range n {
		l = append(l, i)
	}
	return l
}

func TestNoPageOfANewTableIsDirty(t *testing.T) {
	for _, pages := range pageCounts {
		c := table(t, pages)
		wantDirty(t, c)
		wantTaken(t, c)
	}
}

func TestEachRefOfAPageMakesItDirty(t *testing.T) {
	for _, pages := range []int{1, 2, 3, maxPages} {
		for page := range pages {
			for word := range pageWords {
				c := table(t, pages)
				want(t, "Dirty", c.Dirty(first(page)+api.Ref(word)), true)
				wantDirty(t, c, page)
			}
		}
	}
}

func TestAPageIsMadeDirtyAgain(t *testing.T) {
	c := table(t, 2)
	for range 3 {
		for _, r := range []api.Ref{40, 33, 64} {
			want(t, "Dirty", c.Dirty(r), true)
			wantDirty(t, c, 1)
		}
	}
	wantTaken(t, c, 1)
	wantDirty(t, c)
}

func TestAllPagesAreDirty(t *testing.T) {
	for _, pages := range pageCounts {
		c := table(t, pages, upTo(pages)...)
		wantDirty(t, c, upTo(pages)...)
		wantTaken(t, c, upTo(pages)...)
		wantDirty(t, c)
	}
}

func TestRefsThatLieInNoPage(t *testing.T) {
	for _, pages := range pageCounts {
		size := api.Ref(pageWords*pages + 1)
		for _, dirty := range [][]int{nil, upTo(pages), upTo(pages / 2)} {
			c := table(t, pages, dirty...)
			for _, r := range slices.Concat(farRefs, []api.Ref{size, size + 1, size + 31, size + 32, 2 * size, -size}) {
				if c.Dirty(r) {
					t.Fatalf("%d pages: Dirty(%d): true", pages, r)
				}
				wantDirty(t, c, dirty...)
			}
		}
	}
}

func TestPagesBeyondThoseThatAnArenaMayHave(t *testing.T) {
	c := table(t, 1000)
	want(t, "Dirty", c.Dirty(2048), true)
	want(t, "Dirty", c.Dirty(2049), false)
	wantDirty(t, c, 63)
	c = table(t, -1)
	want(t, "Dirty", c.Dirty(1), false)
	wantDirty(t, c)
}

func TestNoSuchPageIsDirty(t *testing.T) {
	for _, pages := range pageCounts {
		c := table(t, pages, upTo(pages)...)
		for _, page := range slices.Concat(farPages, []int{pages, pages + 1, -pages - 1}) {
			if c.Is(page) {
				t.Fatalf("%d pages: Is(%d): true", pages, page)
			}
		}
	}
}

func TestClean(t *testing.T) {
	for _, pages := range pageCounts {
		c := table(t, pages, upTo(pages)...)
		for range 2 {
			c.Clean()
			wantDirty(t, c)
			wantTaken(t, c)
		}
		for page := range pages {
			soil(t, c, page)
			wantDirty(t, c, page)
			c.Clean()
		}
	}
}

func TestTakeTellsPagesRising(t *testing.T) {
	c := table(t, maxPages, 63, 0, 31, 32, 7, 62, 1, 7, 0)
	wantTaken(t, c, 0, 1, 7, 31, 32, 62, 63)
	wantDirty(t, c)
	wantTaken(t, c)
	soil(t, c, 32, 7)
	wantTaken(t, c, 7, 32)
}

func TestAPageIsDirtyNoMoreAsItIsTold(t *testing.T) {
	c := table(t, 6, 4, 0, 3)
	rest := [][]int{{3, 4}, {4}, {}}
	for page := range c.Take() {
		want(t, "Is", c.Is(page), false)
		wantDirty(t, c, rest[0]...)
		rest = rest[1:]
	}
	want(t, "told too few", len(rest), 0)
}

func TestPagesThatOneDoesNotComeToStay(t *testing.T) {
	all := []int{0, 2, 3, 5, 63}
	for stop := range all {
		c := table(t, maxPages, all...)
		var l []int
		for page := range c.Take() {
			l = append(l, page)
			if len(l) == stop+1 {
				break
			}
		}
		if !slices.Equal(l, all[:stop+1]) {
			t.Fatalf("Take: %v, want %v", l, all[:stop+1])
		}
		wantDirty(t, c, all[stop+1:]...)
		wantTaken(t, c, all[stop+1:]...)
	}
}

func TestTakeThatIsNotGoneThroughTakesNothing(t *testing.T) {
	c := table(t, 4, 1, 2)
	c.Take()
	wantDirty(t, c, 1, 2)
}

func TestTakeIsOfTheTimeItIsGoneThrough(t *testing.T) {
	c := table(t, 8, 5)
	take := c.Take()
	for _, x := range []struct{ more, told []int }{{[]int{7, 1}, []int{1, 5, 7}}, {}, {[]int{6, 0}, []int{0, 6}}} {
		soil(t, c, x.more...)
		if l := slices.Collect(take); !slices.Equal(l, x.told) {
			t.Fatalf("Take: %v, want %v", l, x.told)
		}
		wantDirty(t, c)
	}
}

func TestPagesAreMadeDirtyWhileTheyAreTold(t *testing.T) {
	c := table(t, 8, 2, 6)
	var l []int
	for page := range c.Take() {
		l = append(l, page)
		if page == 2 {
			soil(t, c, 2, 0, 4, 6) // the same one, one behind it, one ahead, and one that is dirty yet
		}
	}
	if !slices.Equal(l, []int{2, 4, 6}) {
		t.Fatalf("Take: %v", l)
	}
	wantDirty(t, c, 0, 2)
}

func TestEachPageIsMadeDirtyAgainAsItIsTold(t *testing.T) {
	c := table(t, 4, 0, 1, 3)
	n := 0
	for page := range c.Take() {
		soil(t, c, page)
		n++
	}
	want(t, "told", n, 3)
	wantDirty(t, c, 0, 1, 3)
}

func TestCleanWhilePagesAreTold(t *testing.T) {
	c := table(t, 8, 1, 2, 5)
	var l []int
	for page := range c.Take() {
		l = append(l, page)
		if page == 1 {
			c.Clean()
			soil(t, c, 4)
		}
	}
	if !slices.Equal(l, []int{1, 4}) {
		t.Fatalf("Take: %v", l)
	}
	wantDirty(t, c)
}

func TestTakeWithinTake(t *testing.T) {
	c := table(t, 8, 1, 2, 5)
	var l []int
	take := c.Take()
	for page := range take {
		l = append(l, page)
		for page := range take {
			l = append(l, 10*page)
			break
		}
	}
	if !slices.Equal(l, []int{1, 20, 5}) {
		t.Fatalf("Take: %v", l)
	}
	wantDirty(t, c)
}

func TestTakeLeftByAPanic(t *testing.T) {
	c := table(t, 8, 1, 2, 5)
	func() {
		defer func() { recover() }()
		for range c.Take() {
			panic("left")
		}
	}()
	wantDirty(t, c, 2, 5)
	c.Clean() // ends only if nothing is held any more
	wantDirty(t, c)
}

func TestATableHasTheMethodsOfASet(t *testing.T) {
	c := table(t, 5, 3, 1)
	want(t, "Len", c.Len(), 5)
	want(t, "Has", c.Has(3), true)
	want(t, "Drop", c.Drop(3), true)
	want(t, "Put", c.Put(4), true)
	want(t, "Put", c.Put(5), false)
	if l := slices.Collect(c.All()); !slices.Equal(l, []int{1, 4}) {
		t.Fatalf("All: %v", l)
	}
	wantDirty(t, c, 1, 4)
	c.Reset()
	wantDirty(t, c)
}

func TestTablesAreApart(t *testing.T) {
	a := arena.New(4)
	b, c := card.New(a), card.New(a)
	soil(t, b, 1, 2)
	soil(t, c, 2, 3)
	wantTaken(t, b, 1, 2)
	wantDirty(t, c, 2, 3)
	soil(t, b, 3)
	c.Clean()
	wantDirty(t, b, 3)
}

func TestAPageIsDirtyWhateverTheArenaHasThere(t *testing.T) {
	a := arena.New(3)
	c := card.New(a)
	want(t, "Dirty", c.Dirty(70), true) // the page is free
	r, _ := a.Take(2)
	a.Set(r, 7, 5)
	want(t, "Dirty", c.Dirty(r), true)
	want(t, "Dirty", c.Dirty(r+20), true) // no cell begins there
	wantDirty(t, c, 0, 2)
	want(t, "Word", a.Word(r, 7), 5)
	want(t, "Free", a.Free(), 2)
	a.Give(r)
	wantDirty(t, c, 0, 2)
	a.Take(0)
	wantDirty(t, c, 0, 2)
	wantTaken(t, c, 0, 2)
	want(t, "Has", a.Has(1), true)
	want(t, "Free", a.Free(), 2)
}

// model does what a table does, by a bool for each page.
type model []bool

func (m model) dirty(r api.Ref) bool {
	if r < 1 || int(r) > pageWords*len(m) {
		return false
	}
	m[(int(r)-1)/pageWords] = true
	return true
}

func (m model) pages() []int {
	var l []int
	for page, dirty := range m {
		if dirty {
			l = append(l, page)
		}
	}
	return l
}

// take takes up to n pages.
func (m model) take(n int) []int {
	l := m.pages()
	l = l[:min(n, len(l))]
	for _, page := range l {
		m[page] = false
	}
	return l
}

// taken takes up to n pages, one at least.
func taken(c *card.Table, n int) []int {
	var l []int
	for page := range c.Take() {
		l = append(l, page)
		if len(l) == n {
			break
		}
	}
	return l
}

func TestAgainstAModel(t *testing.T) {
	rnd := rand.New(rand.NewSource(1))
	for _, pages := range pageCounts {
		c, m := table(t, pages), make(model, pages)
		for range 4000 {
			switch k := rnd.Intn(40); {
			case k == 0:
				c.Clean()
				clear(m)
			case k < 4:
				n := 1 + rnd.Intn(pages+2)
				if got, l := taken(c, n), m.take(n); !slices.Equal(got, l) {
					t.Fatalf("Take of %d: %v, want %v", n, got, l)
				}
			default:
				r := api.Ref(rnd.Intn(pageWords*pages+9) - 3)
				want(t, "Dirty", c.Dirty(r), m.dirty(r))
			}
			wantDirty(t, c, m.pages()...)
		}
	}
}
