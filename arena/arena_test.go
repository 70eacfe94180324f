package arena_test

import (
	"iter"
	"math"
	"math/rand"
	"slices"
	"testing"

	"hawthorn/api"
	"hawthorn/arena"
)

// What the document says of each class and of pages, in numbers.
const pageWords, maxPages = 32, 64

var (
	cellWords = [...]int{2, 4, 8}
	pageCells = [...]int{16, 8, 4}
)

// noClasses and noPages are numbers of none; far ones, as products of them may come back among those that are.
var (
	noClasses = []int{-1, -2, 3, 4, 32, 64, math.MaxInt, math.MinInt, 1 << 32, 1<<32 + 1}
	noPages   = []int{-1, -2, -64, maxPages, 65, 1 << 59, 1<<59 + 1, -1 << 59, 1 << 32, math.MaxInt, math.MinInt}
	farRefs   = []api.Ref{-1, -2, -31, -32, -33, math.MinInt, math.MinInt + 1, math.MaxInt, 1 << 32, 1<<32 + 1, -1<<32 + 1, 1 << 62}
	farWords  = []int{-1, -2, -8, -32, 8, 9, 31, 32, 64, 1 << 32, -1 << 32, math.MaxInt, math.MaxInt - 1, math.MinInt}
)

func take(t *testing.T, a *arena.Arena, class int, want api.Ref) {
	t.Helper()
	if r, ok := a.Take(class); r != want || !ok {
		t.Fatalf("Take(%d): %d, %t, want %d, true", class, r, ok, want)
	}
}

func takeNone(t *testing.T, a *arena.Arena, class int) {
	t.Helper()
	if r, ok := a.Take(class); r != 0 || ok {
		t.Fatalf("Take(%d): %d, %t, want 0, false", class, r, ok)
	}
}

func give(t *testing.T, a *arena.Arena, l ...api.Ref) {
	t.Helper()
	for _, r := range l {
		if !a.Give(r) {
			t.Fatalf("Give(%d): false", r)
		}
	}
}

func want(t *testing.T, what string, got, want int) {
	t.Helper()
	if got != want {
		t.Fatalf("%s: %d, want %d", what, got, want)
	}
}

func wantRefs(t *testing.T, what string, got iter.Seq[api.Ref], want ...api.Ref) {
	t.Helper()
	if l := slices.Collect(got); !slices.Equal(l, want) {
		t.Fatalf("%s: %v, want %v", what, l, want)
	}
}

// fill takes cells of a class till there is no room.
func fill(a *arena.Arena, class int) []api.Ref {
	var l []api.Ref
	for r, ok := a.Take(class); ok; r, ok = a.Take(class) {
		l = append(l, r)
	}
	return l
}

func TestPagesOfANewArena(t *testing.T) {
	for _, x := range [][2]int{{0, 0}, {1, 1}, {2, 2}, {63, 63}, {64, 64}, {65, 64}, {1000, 64}, {math.MaxInt, 64}, {1 << 59, 64}, {-1, 0}, {-64, 0}, {math.MinInt, 0}} {
		a := arena.New(x[0])
		want(t, "Pages", a.Pages(), x[1])
		want(t, "Size", a.Size(), pageWords*x[1]+1)
		want(t, "Free", a.Free(), x[1])
		for p := range x[1] {
			want(t, "Class", a.Class(p), -1)
			wantRefs(t, "Cells", a.Cells(p))
		}
		wantRefs(t, "All", a.All())
		for class := range cellWords {
			if a.Room(class) != (x[1] > 0) {
				t.Fatalf("%d pages: Room(%d): %t", x[0], class, a.Room(class))
			}
		}
	}
}

func TestAnArenaWithoutPagesHasNoRoom(t *testing.T) {
	a := arena.New(0)
	for class := range cellWords {
		takeNone(t, a, class)
	}
	want(t, "Page", a.Page(1), -1)
	want(t, "Page", a.Page(0), -1)
}

func TestRefsOfEachClass(t *testing.T) {
	for class, words := range cellWords {
		for _, pages := range []int{1, 2, 3, maxPages} {
			a := arena.New(pages)
			for k := range pages * pageCells[class] {
				// Cells follow each other without a gap, as words goes up in pageWords.
				take(t, a, class, api.Ref(k*words+1))
				want(t, "Free", a.Free(), pages-1-k/pageCells[class])
			}
			takeNone(t, a, class)
			for other := range cellWords {
				if a.Room(other) {
					t.Fatalf("Room(%d) of a full arena", other)
				}
				takeNone(t, a, other)
			}
		}
	}
}

func TestRefsAreBelowSize(t *testing.T) {
	for class := range cellWords {
		for _, r := range fill(arena.New(maxPages), class) {
			if r < 1 || int(r) >= arena.New(maxPages).Size() {
				t.Fatal(r)
			}
		}
	}
}

func TestNoSuchClassIsNeverTaken(t *testing.T) {
	a := arena.New(2)
	take(t, a, 1, 1) // one page is free, and one isn't
	for _, class := range noClasses {
		if a.Room(class) {
			t.Fatalf("Room(%d)", class)
		}
		takeNone(t, a, class)
	}
	want(t, "Free", a.Free(), 1)
	wantRefs(t, "All", a.All(), 1)
}

func TestClassesHavePagesOfTheirOwn(t *testing.T) {
	a := arena.New(4)
	take(t, a, 2, 1)
	take(t, a, 0, 33)
	take(t, a, 1, 65)
	take(t, a, 2, 9)
	take(t, a, 0, 35)
	take(t, a, 1, 69)
	for p, class := range []int{2, 0, 1, -1} {
		want(t, "Class", a.Class(p), class)
	}
	want(t, "Free", a.Free(), 1)
	wantRefs(t, "page 0", a.Cells(0), 1, 9)
	wantRefs(t, "page 1", a.Cells(1), 33, 35)
	wantRefs(t, "page 2", a.Cells(2), 65, 69)
	wantRefs(t, "page 3", a.Cells(3))
	wantRefs(t, "All", a.All(), 1, 9, 33, 35, 65, 69)
}

func TestTheLeastFreeCellIsTaken(t *testing.T) {
	a := arena.New(3)
	want(t, "cells", len(fill(a, 1)), 24)
	give(t, a, 93, 5, 33, 61, 29)
	for _, r := range []api.Ref{5, 29, 33, 61, 93} {
		take(t, a, 1, r)
	}
	takeNone(t, a, 1)
}

func TestAFreeCellComesAheadOfAFreePage(t *testing.T) {
	a := arena.New(3)
	for range 5 {
		a.Take(2)
	}
	give(t, a, 1, 9, 17, 25) // page 0 is free, page 1 has a cell
	want(t, "Class", a.Class(0), -1)
	take(t, a, 2, 41)
	take(t, a, 2, 49)
	take(t, a, 2, 57)
	take(t, a, 2, 1)
	take(t, a, 2, 9)
	want(t, "Free", a.Free(), 1)
}

func TestTheLeastFreePageIsTaken(t *testing.T) {
	a := arena.New(4)
	for range 16 {
		a.Take(2)
	}
	give(t, a, 97, 105, 113, 121, 33, 41, 49, 57)
	want(t, "Free", a.Free(), 2)
	take(t, a, 0, 33)
	take(t, a, 1, 97)
	takeNone(t, a, 2)
}

func TestAPageIsFreeWhenItsLastCellIsGivenBack(t *testing.T) {
	for class, words := range cellWords {
		for last := range pageCells[class] {
			a := arena.New(1)
			for _, r := range fill(a, class) {
				if r != api.Ref(last*words+1) {
					give(t, a, r)
				}
				want(t, "Class", a.Class(0), class)
				want(t, "Free", a.Free(), 0)
			}
			give(t, a, api.Ref(last*words+1))
			want(t, "Class", a.Class(0), -1)
			want(t, "Free", a.Free(), 1)
			other := (class + 1) % 3
			take(t, a, other, 1)
			want(t, "Class", a.Class(0), other)
		}
	}
}

func TestGiveOfWhatIsNotTaken(t *testing.T) {
	a := arena.New(2)
	take(t, a, 2, 1)
	take(t, a, 2, 9)
	give(t, a, 1)
	for r := api.Ref(-40); r < 110; r++ {
		if r != 9 && (a.Give(r) || a.Has(r)) {
			t.Fatalf("%d is taken", r)
		}
	}
	for _, r := range farRefs {
		if a.Give(r) || a.Has(r) {
			t.Fatalf("%d is taken", r)
		}
	}
	wantRefs(t, "All", a.All(), 9)
	want(t, "Class", a.Class(0), 2)
	give(t, a, 9)
	if a.Give(9) {
		t.Fatal("given back twice")
	}
	want(t, "Free", a.Free(), 2)
}

func TestPageOfRefs(t *testing.T) {
	for _, pages := range []int{1, 2, maxPages} {
		a := arena.New(pages)
		for page := range pages {
			for k := range pageWords {
				want(t, "Page", a.Page(api.Ref(page*pageWords+k+1)), page)
			}
		}
		for _, r := range append([]api.Ref{0, api.Ref(a.Size()), api.Ref(a.Size() + 1), api.Ref(a.Size() + 31)}, farRefs...) {
			want(t, "Page", a.Page(r), -1)
		}
	}
}

func TestNoSuchPage(t *testing.T) {
	a := arena.New(maxPages)
	fill(a, 0)
	for _, page := range noPages {
		want(t, "Class", a.Class(page), -1)
		wantRefs(t, "Cells", a.Cells(page))
	}
	a = arena.New(2)
	want(t, "Class", a.Class(2), -1)
	wantRefs(t, "Cells", a.Cells(2))
}

func TestWordsOfATakenCell(t *testing.T) {
	for class, words := range cellWords {
		a := arena.New(2)
		l := fill(a, class)
		for k, r := range l {
			for i := range words {
				want(t, "Word", a.Word(r, i), 0)
				if !a.Set(r, i, 1000*k+i+1) {
					t.Fatalf("Set(%d, %d): false", r, i)
				}
			}
		}
		for k, r := range l {
			for i := range words {
				want(t, "Word", a.Word(r, i), 1000*k+i+1)
			}
		}
	}
}

func TestAWordTakesAnyNumber(t *testing.T) {
	a := arena.New(1)
	take(t, a, 0, 1)
	for _, x := range []int{0, 1, -1, math.MaxInt, math.MinInt, 1 << 40} {
		if !a.Set(1, 1, x) {
			t.Fatal("Set: false")
		}
		want(t, "Word", a.Word(1, 1), x)
		want(t, "Word", a.Word(1, 0), 0)
	}
}

func TestWordsThatThereAreNot(t *testing.T) {
	for class, words := range cellWords {
		a := arena.New(2)
		l := fill(a, class)
		for k, r := range l {
			for i := range words {
				a.Set(r, i, k+1)
			}
		}
		for _, r := range l {
			for _, i := range append(farWords, words) {
				want(t, "Word", a.Word(r, i), 0)
				if a.Set(r, i, 7777) {
					t.Fatalf("class %d: Set(%d, %d)", class, r, i)
				}
			}
		}
		for k, r := range l {
			for i := range words {
				want(t, "Word", a.Word(r, i), k+1)
			}
		}
	}
}

func TestWordsOfWhatIsNoTakenCell(t *testing.T) {
	a := arena.New(2)
	take(t, a, 2, 1)
	take(t, a, 2, 9)
	for i := range 8 {
		a.Set(1, i, 5)
		a.Set(9, i, 6)
	}
	give(t, a, 9)
	none := []api.Ref{0, 2, 5, 8, 9, 17, 31, 32, 33, 64, 65, 66}
	for _, r := range append(none, farRefs...) {
		for _, i := range append([]int{0, 1, 7}, farWords...) {
			want(t, "Word", a.Word(r, i), 0)
			if a.Set(r, i, 7777) {
				t.Fatalf("Set(%d, %d)", r, i)
			}
		}
	}
	for i := range 8 {
		want(t, "Word", a.Word(1, i), 5)
	}
	take(t, a, 2, 9)
	for i := range 8 {
		want(t, "Word", a.Word(9, i), 0)
	}
}

func TestWordsAre0WhenACellIsTaken(t *testing.T) {
	for before, words := range cellWords {
		for behind := range cellWords {
			a := arena.New(1)
			for _, r := range fill(a, before) {
				for i := range words {
					a.Set(r, i, 9)
				}
			}
			for _, r := range slices.Collect(a.All()) {
				give(t, a, r)
			}
			for _, r := range fill(a, behind) {
				for i := range cellWords[behind] {
					want(t, "Word", a.Word(r, i), 0)
				}
			}
		}
	}
}

func TestTakeLeavesOtherCellsAlone(t *testing.T) {
	for class, words := range cellWords {
		a := arena.New(2)
		l := fill(a, class)
		for _, r := range l {
			for i := range words {
				a.Set(r, i, int(r))
			}
		}
		again := l[len(l)/2-1]
		give(t, a, again)
		take(t, a, class, again)
		for _, r := range l {
			for i := range words {
				if r != again {
					want(t, "Word", a.Word(r, i), int(r))
				}
			}
		}
	}
}

// both are the two ways to go through the cells of an arena of one page.
func both(a *arena.Arena) map[string]iter.Seq[api.Ref] {
	return map[string]iter.Seq[api.Ref]{"All": a.All(), "Cells": a.Cells(0)}
}

func TestCellsAreLeft(t *testing.T) {
	a := arena.New(1)
	fill(a, 1)
	for name, cells := range both(a) {
		for stop := range 8 {
			n := 0
			for range cells {
				if n == stop {
					break
				}
				n++
			}
			want(t, name, n, stop)
		}
	}
	wantRefs(t, "All", a.All(), 1, 5, 9, 13, 17, 21, 25, 29)
}

func TestCellsAreThoseOfNow(t *testing.T) {
	a := arena.New(1)
	ways := both(a)
	take(t, a, 2, 1)
	take(t, a, 2, 9)
	for name, cells := range ways {
		wantRefs(t, name, cells, 1, 9)
	}
	give(t, a, 1)
	for name, cells := range ways {
		wantRefs(t, name, cells, 9)
	}
	give(t, a, 9)
	take(t, a, 0, 1)
	for name, cells := range ways {
		wantRefs(t, name, cells, 1)
	}
}

func TestCellsAreGivenBackWhileTheyAreTold(t *testing.T) {
	for _, name := range []string{"All", "Cells"} {
		a := arena.New(1)
		fill(a, 0)
		n := 0
		for r := range both(a)[name] {
			give(t, a, r)
			n++
		}
		want(t, name, n, 16)
		want(t, "Free", a.Free(), 1)
	}
}

func TestAPageBecomesOfAnotherClassWhileItIsTold(t *testing.T) {
	for _, name := range []string{"All", "Cells"} {
		a := arena.New(1)
		fill(a, 2)
		var l []api.Ref
		for r := range both(a)[name] {
			l = append(l, r)
			if r == 9 {
				give(t, a, 1, 9, 17, 25)
				fill(a, 0)
				give(t, a, 1, 31)
			}
		}
		if !slices.Equal(l, []api.Ref{1, 9, 11, 13, 15, 17, 19, 21, 23, 25, 27, 29}) {
			t.Fatal(name, l)
		}
	}
}

func TestCellsWithinCells(t *testing.T) {
	a := arena.New(1)
	take(t, a, 2, 1)
	take(t, a, 2, 9)
	for name, cells := range both(a) {
		var l []api.Ref
		for r := range cells {
			for k := range cells {
				l = append(l, r, k)
			}
		}
		if !slices.Equal(l, []api.Ref{1, 1, 1, 9, 9, 1, 9, 9}) {
			t.Fatal(name, l)
		}
	}
}

func TestArenasAreApart(t *testing.T) {
	a, b := arena.New(1), arena.New(1)
	take(t, a, 0, 1)
	a.Set(1, 0, 5)
	take(t, b, 2, 1)
	want(t, "Word", b.Word(1, 0), 0)
	give(t, b, 1)
	want(t, "Word", a.Word(1, 0), 5)
	want(t, "Class", a.Class(0), 0)
	want(t, "Class", b.Class(0), -1)
}

// model does what an arena does, by a map of cells, each of which has its class and its words.
type model struct {
	pages int
	cells map[api.Ref]*cell
}

type cell struct {
	class int
	words [8]int
}

func (m *model) class(page int) int {
	for r, c := range m.cells {
		if int(r-1)/pageWords == page {
			return c.class
		}
	}
	return -1
}

// next is the first Ref of a class, on pages that are of a class, that no cell has.
func (m *model) next(on, class int) (api.Ref, bool) {
	for page := range m.pages {
		if m.class(page) != on {
			continue
		}
		for k := range pageCells[class] {
			r := api.Ref(page*pageWords + k*cellWords[class] + 1)
			if m.cells[r] == nil {
				return r, true
			}
		}
	}
	return 0, false
}

func (m *model) take(class int) (api.Ref, bool) {
	r, ok := m.next(class, class)
	if !ok {
		r, ok = m.next(-1, class)
	}
	if ok {
		m.cells[r] = &cell{class: class}
	}
	return r, ok
}

func (m *model) give(r api.Ref) bool {
	has := m.cells[r] != nil
	delete(m.cells, r)
	return has
}

// word is where a word is; nil: there is none.
func (m *model) word(r api.Ref, i int) *int {
	c := m.cells[r]
	if c == nil || i < 0 || i >= cellWords[c.class] {
		return nil
	}
	return &c.words[i]
}

func (m *model) refs() []api.Ref {
	var l []api.Ref
	for r := range m.cells {
		l = append(l, r)
	}
	slices.Sort(l)
	return l
}

func compare(t *testing.T, a *arena.Arena, m *model) {
	t.Helper()
	l := m.refs()
	wantRefs(t, "All", a.All(), l...)
	free := 0
	for page := range m.pages {
		class := m.class(page)
		if class == -1 {
			free++
		}
		want(t, "Class", a.Class(page), class)
		wantRefs(t, "Cells", a.Cells(page), slices.DeleteFunc(slices.Clone(l), func(r api.Ref) bool { return int(r-1)/pageWords != page })...)
	}
	want(t, "Free", a.Free(), free)
	for r := api.Ref(0); int(r) <= a.Size(); r++ {
		if a.Has(r) != (m.cells[r] != nil) {
			t.Fatalf("Has(%d): %t", r, a.Has(r))
		}
	}
}

// apart holds that no word of the arena is one of two taken cells.
func apart(t *testing.T, a *arena.Arena) {
	t.Helper()
	whose := make([]api.Ref, a.Size())
	for r := range a.All() {
		for k := range cellWords[a.Class(a.Page(r))] {
			at := int(r) + k
			if at >= a.Size() || a.Page(api.Ref(at)) != a.Page(r) {
				t.Fatalf("cell %d ends behind its page", r)
			}
			if whose[at] != 0 {
				t.Fatalf("cells %d and %d lie over each other", whose[at], r)
			}
			whose[at] = r
		}
	}
}

// step does one call on both, and holds the answers against each other.
func step(t *testing.T, r *rand.Rand, a *arena.Arena, m *model, takes int) {
	t.Helper()
	at := api.Ref(r.Intn(a.Size()+4) - 2)
	if l := m.refs(); len(l) > 0 && r.Intn(4) > 0 {
		at = l[r.Intn(len(l))]
	}
	i, x := r.Intn(11)-1, r.Int()
	switch k := r.Intn(10); {
	case k < takes:
		class := r.Intn(3)
		room := a.Room(class)
		got, ok := a.Take(class)
		if r, had := m.take(class); got != r || ok != had || room != had {
			t.Fatalf("Take(%d): %d, %t, room %t, want %d, %t", class, got, ok, room, r, had)
		}
	case k < 8:
		if got, had := a.Give(at), m.give(at); got != had {
			t.Fatalf("Give(%d): %t, want %t", at, got, had)
		}
	default:
		got, word := a.Set(at, i, x), m.word(at, i)
		if got != (word != nil) {
			t.Fatalf("Set(%d, %d): %t", at, i, got)
		}
		if word != nil {
			*word = x
		}
	}
	word := 0
	if w := m.word(at, i); w != nil {
		word = *w
	}
	want(t, "Word", a.Word(at, i), word)
}

func TestAgainstAModel(t *testing.T) {
	r := rand.New(rand.NewSource(1))
	for _, pages := range []int{0, 1, 2, 3, 7} {
		a, m := arena.New(pages), &model{pages: pages, cells: map[api.Ref]*cell{}}
		for k := range 6000 {
			step(t, r, a, m, 3+k/500%4) // at times more is given back than taken, at times less
			if k%20 == 0 {
				compare(t, a, m)
				apart(t, a)
			}
		}
	}
}

func TestTakenCellsNeverLieOverEachOther(t *testing.T) {
	a := arena.New(maxPages)
	r := rand.New(rand.NewSource(2))
	for range 40 {
		for range 300 {
			a.Take(r.Intn(3))
		}
		apart(t, a)
		for c := range a.All() {
			if r.Intn(3) > 0 {
				a.Give(c)
			}
		}
		apart(t, a)
	}
}
