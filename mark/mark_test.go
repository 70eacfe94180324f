package mark_test

import (
	"math"
	"math/rand"
	"slices"
	"testing"

	"hawthorn/api"
	"hawthorn/arena"
	"hawthorn/cell"
	"hawthorn/mark"
)

var (
	// How many places: 1, and what comes to 1, are tight; the last ones are more than there is memory for.
	tightRooms = []int{1, 0, -1, -64, -1 << 32, math.MinInt}
	rooms      = []int{1, 0, -1, math.MinInt, 2, 3, 5, api.MaxMark, api.MaxMark + 1, 1 << 40, math.MaxInt}

	// What no object has as its Ref in an arena of which some cells are free.
	noRefs = []api.Ref{-1, -5, -32, 2, 3, 4, 6, 2049, 1 << 32, 1<<32 + 1, math.MaxInt, math.MinInt, math.MinInt + 1}
)

func want[T comparable](t *testing.T, what string, got, want T) {
	t.Helper()
	if got != want {
		t.Fatalf("%s: %v, want %v", what, got, want)
	}
}

func wantList[T comparable](t *testing.T, what string, got, want []T) {
	t.Helper()
	if !slices.Equal(got, want) {
		t.Fatalf("%s: %v, want %v", what, got, want)
	}
}

// heap is an arena with so many new objects, with Refs 1, 5, 9, .., of two fields each.
func heap(t *testing.T, n int) (*arena.Arena, []api.Ref) {
	t.Helper()
	a := arena.New(api.MaxPages)
	var l []api.Ref
	for range n {
		l = append(l, born(t, a, 2))
	}
	return a, l
}

func born(t *testing.T, a *arena.Arena, fields int) api.Ref {
	t.Helper()
	r, e := cell.New(a, fields)
	want(t, "New", e, api.OK)
	return r
}

// point has fields of r, from 0 on, point to these.
func point(t *testing.T, a *arena.Arena, r api.Ref, to ...api.Ref) {
	t.Helper()
	for i, x := range to {
		want(t, "SetField", cell.SetField(a, r, i, x), api.OK)
	}
}

// list has each of these point to the next one.
func list(t *testing.T, a *arena.Arena, l []api.Ref) {
	t.Helper()
	for i, r := range l[1:] {
		point(t, a, l[i], r)
	}
}

func shade(t *testing.T, m *mark.Marker, l ...api.Ref) {
	t.Helper()
	for _, r := range l {
		want(t, "Shade", m.Shade(r), true)
	}
}

func regrey(t *testing.T, m *mark.Marker, l ...api.Ref) {
	t.Helper()
	for _, r := range l {
		want(t, "Regrey", m.Regrey(r), true)
	}
}

func blacken(m *mark.Marker, l ...api.Ref) {
	for _, r := range l {
		m.Blacken(r)
	}
}

// wantColours: of the arena's objects just these are grey, and black; the others are white.
func wantColours(t *testing.T, m *mark.Marker, grey, black []api.Ref) {
	t.Helper()
	marked := slices.Sorted(slices.Values(slices.Concat(grey, black)))
	for range 2 { // to ask changes nothing
		for r := range m.Arena().All() {
			want(t, "Marked", m.Marked(r), slices.Contains(marked, r))
			want(t, "Scanned", m.Scanned(r), slices.Contains(black, r))
		}
		wantList(t, "All", slices.Collect(m.All()), marked)
		want(t, "Count", m.Count(), len(marked))
		want(t, "Drained", m.Drained(), len(grey) == 0)
	}
}

// wantScanned: one by one just these are scanned, and none is grey behind them.
func wantScanned(t *testing.T, m *mark.Marker, l ...api.Ref) {
	t.Helper()
	for _, r := range l {
		want(t, "Scanned", m.Scanned(r), false)
		want(t, "Trace(1)", m.Trace(1), 1)
		want(t, "Scanned", m.Scanned(r), true)
	}
	want(t, "Drained", m.Drained(), true)
	want(t, "Trace", m.Trace(math.MaxInt), 0)
}

func TestAllAreWhiteAtFirst(t *testing.T) {
	for _, room := range rooms {
		for _, pages := range []int{0, 1, api.MaxPages} {
			a := arena.New(pages)
			for a.Room(2) {
				born(t, a, 6)
			}
			m := mark.New(a, room)
			wantColours(t, m, nil, nil)
			want(t, "Trace", m.Trace(5), 0)
			want(t, "Arena", m.Arena(), a)
		}
	}
}

func TestWhatIsBornBehindItIsWhite(t *testing.T) {
	a := arena.New(2)
	m := mark.New(a, 1)
	for a.Room(0) {
		r := born(t, a, 0)
		want(t, "Marked", m.Marked(r), false)
		shade(t, m, r)
	}
	want(t, "Count", m.Count(), 32)
}

func TestNothingIsDoneOfNone(t *testing.T) {
	a, l := heap(t, 2)
	m := mark.New(a, 2)
	shade(t, m, l[0])
	m.Trace(1)
	shade(t, m, l[1])
	for range 2 {
		want(t, "Marked", m.Marked(0), false)
		want(t, "Scanned", m.Scanned(0), false)
		want(t, "Shade", m.Shade(0), false)
		m.Blacken(0)
		want(t, "Regrey", m.Regrey(0), false)
		m.Forget(0)
		wantColours(t, m, l[1:], l[:1])
	}
	wantScanned(t, m, l[1])
}

func TestTheFirstAndTheLastCell(t *testing.T) {
	a := arena.New(api.MaxPages)
	var l []api.Ref
	for a.Room(0) {
		l = append(l, born(t, a, 0))
	}
	ends := []api.Ref{1, 2047}
	wantList(t, "the ends", []api.Ref{l[0], l[len(l)-1]}, ends)
	m := mark.New(a, 1)
	shade(t, m, ends...)
	wantColours(t, m, ends, nil)
	want(t, "Trace", m.Trace(3), 2)
	wantColours(t, m, nil, ends)
	m.Forget(1)
	wantColours(t, m, nil, ends[1:])
}

func TestAWhiteOneIsShaded(t *testing.T) {
	for _, room := range rooms {
		a, l := heap(t, 4)
		m := mark.New(a, room)
		for i, r := range l {
			shade(t, m, r)
			wantColours(t, m, l[:i+1], nil)
			want(t, "Shade of a grey one", m.Shade(r), false)
			wantColours(t, m, l[:i+1], nil)
		}
		want(t, "Trace", m.Trace(9), 4) // that it was shaded again has it scanned once, all the same
		for _, r := range l {
			want(t, "Shade of a black one", m.Shade(r), false)
		}
		wantColours(t, m, nil, l)
		want(t, "Trace", m.Trace(9), 0)
	}
}

func TestAnyOneIsBlackened(t *testing.T) {
	for _, room := range rooms {
		a, l := heap(t, 4)
		list(t, a, l)
		m := mark.New(a, room)
		shade(t, m, l[1])
		blacken(m, l[0], l[1], l[0], l[1]) // a white one, a grey one, black ones
		wantColours(t, m, nil, l[:2])
		want(t, "Trace", m.Trace(9), 0) // neither was scanned: the next one is white
		wantColours(t, m, nil, l[:2])
		want(t, "Shade", m.Shade(l[1]), false)
		wantColours(t, m, nil, l[:2])
	}
}

func TestAGreyOneThatIsBlackenedKeepsItsPlace(t *testing.T) {
	a, l := heap(t, 4)
	m := mark.New(a, 2)
	shade(t, m, l[3])
	m.Blacken(l[3])
	shade(t, m, l[0], l[1], l[2]) // there is a place for the first one alone
	wantScanned(t, m, l[0], l[2], l[1])
}

func TestWhatIsNotGreyAnyMoreIsPassedOver(t *testing.T) {
	for _, room := range []int{5, 6, api.MaxMark} {
		a, l := heap(t, 5)
		m := mark.New(a, room)
		shade(t, m, l...)
		blacken(m, l[0], l[2], l[4])
		m.Forget(l[2]) // it is black, so it may be
		wantColours(t, m, []api.Ref{l[1], l[3]}, []api.Ref{l[0], l[4]})
		want(t, "Trace", m.Trace(9), 2)
		wantColours(t, m, nil, []api.Ref{l[0], l[1], l[3], l[4]})
	}
}

func TestWhatIsPassedOverLeavesItsPlace(t *testing.T) {
	a, l := heap(t, 3)
	m := mark.New(a, 2)
	shade(t, m, l[0])
	m.Blacken(l[0])
	want(t, "Trace", m.Trace(5), 0)
	shade(t, m, l[2], l[1])
	wantScanned(t, m, l[1], l[2])
}

func TestABlackOneIsGreyAgain(t *testing.T) {
	for _, room := range rooms {
		a, l := heap(t, 4)
		list(t, a, l[:2])
		m := mark.New(a, room)
		want(t, "Regrey of a white one", m.Regrey(l[0]), false)
		wantColours(t, m, nil, nil)
		shade(t, m, l[0])
		want(t, "Regrey of a grey one", m.Regrey(l[0]), false)
		wantColours(t, m, l[:1], nil)
		want(t, "Trace", m.Trace(9), 2)
		point(t, a, l[0], l[2], l[3])
		regrey(t, m, l[0])
		want(t, "Regrey of a grey one", m.Regrey(l[0]), false)
		wantColours(t, m, l[:1], l[1:2])
		want(t, "Trace", m.Trace(1), 1)
		wantColours(t, m, l[2:], l[:2])
		want(t, "Trace", m.Trace(9), 2)
		wantColours(t, m, nil, l)
	}
}

func TestABlackenedOneIsGreyAgain(t *testing.T) {
	for _, room := range rooms {
		a, l := heap(t, 3)
		list(t, a, l)
		m := mark.New(a, room)
		shade(t, m, l[0])
		for range 3 { // the stack has it more than once, then: it is scanned once
			m.Blacken(l[0])
			regrey(t, m, l[0])
		}
		wantColours(t, m, l[:1], nil)
		want(t, "Trace", m.Trace(9), 3)
		wantColours(t, m, nil, l)
	}
}

func TestOneThatIsGreyAgainIsTheNewest(t *testing.T) {
	a, l := heap(t, 3)
	m := mark.New(a, 5)
	shade(t, m, l...)
	blacken(m, l[0], l[1])
	regrey(t, m, l[1], l[0])
	wantScanned(t, m, l[0], l[1], l[2])
}

func TestOneIsForgotten(t *testing.T) {
	for _, room := range rooms {
		a, l := heap(t, 3)
		list(t, a, l)
		m := mark.New(a, room)
		for range 2 {
			m.Forget(l[0]) // a white one
			wantColours(t, m, nil, nil)
			shade(t, m, l[0])
			want(t, "Trace", m.Trace(9), 3)
			m.Forget(l[1])
			wantColours(t, m, nil, []api.Ref{l[0], l[2]})
			want(t, "Regrey of a white one", m.Regrey(l[1]), false)
			shade(t, m, l[1])
			wantColours(t, m, l[1:2], []api.Ref{l[0], l[2]})
			want(t, "Trace", m.Trace(9), 1)
			for _, r := range l {
				m.Forget(r)
			}
		}
	}
}

func TestTraceOfNone(t *testing.T) {
	for _, room := range rooms {
		a, l := heap(t, 3)
		m := mark.New(a, room)
		shade(t, m, l...)
		for _, n := range []int{0, -1, -2, -1 << 32, math.MinInt} {
			want(t, "Trace", m.Trace(n), 0)
			wantColours(t, m, l, nil)
		}
	}
}

func TestTraceScansSoManyAtMost(t *testing.T) {
	for _, room := range rooms {
		for n := 1; n < 9; n++ {
			a, l := heap(t, 7)
			list(t, a, l)
			m := mark.New(a, room)
			shade(t, m, l[0])
			for left := len(l); left > 0; left -= n {
				wantColours(t, m, l[len(l)-left:][:1], l[:len(l)-left])
				want(t, "Trace", m.Trace(n), min(n, left))
			}
			wantColours(t, m, nil, l)
			want(t, "Trace", m.Trace(n), 0)
		}
	}
}

func TestTheExampleOfAListOfThree(t *testing.T) {
	a, l := heap(t, 3)
	list(t, a, l)
	m := mark.New(a, 1)
	shade(t, m, l[0])
	want(t, "Trace", m.Trace(2), 2)
	wantColours(t, m, l[2:], l[:2])
}

func TestTheNewestOfTheStackIsScannedFirst(t *testing.T) {
	a, l := heap(t, 5)
	for _, room := range []int{5, 6, api.MaxMark, math.MaxInt} {
		m := mark.New(a, room)
		shade(t, m, l[2], l[0], l[4], l[3], l[1])
		wantScanned(t, m, l[1], l[3], l[4], l[0], l[2])
	}
}

func TestWhereOnePointsIsShadedInOrder(t *testing.T) {
	a, l := heap(t, 6)
	x := born(t, a, 6)
	point(t, a, x, l[4], l[1], 0, l[5], l[1], x) // one is there twice, and x itself
	point(t, a, l[1], l[0], l[4])
	m := mark.New(a, 8)
	shade(t, m, l[2], x)
	wantScanned(t, m, x, l[5], l[1], l[0], l[4], l[2])
	wantColours(t, m, nil, []api.Ref{l[0], l[1], l[2], l[4], l[5], x})
}

func TestAnObjectOfSixFields(t *testing.T) {
	for _, room := range rooms {
		a, l := heap(t, 6)
		x := born(t, a, 6)
		point(t, a, x, l...)
		m := mark.New(a, room)
		shade(t, m, x)
		want(t, "Trace", m.Trace(1), 1)
		wantColours(t, m, l, []api.Ref{x})
		want(t, "Trace", m.Trace(9), 6)
	}
}

func TestItsNumberIsNoPlaceWhereItPoints(t *testing.T) {
	a, l := heap(t, 2)
	want(t, "SetScalar", cell.SetScalar(a, l[0], int(l[1])), api.OK)
	m := mark.New(a, 1)
	shade(t, m, l[0])
	want(t, "Trace", m.Trace(9), 1)
	wantColours(t, m, nil, l[:1])
}

func TestAStackThatRanOver(t *testing.T) {
	a, l := heap(t, 6)
	m := mark.New(a, 2)
	shade(t, m, l[5], l[3], l[1], l[4], l[2], l[0])
	// Two had a place; behind them all that are grey are pushed, rising, as far as there are places.
	wantScanned(t, m, l[3], l[5], l[1], l[0], l[4], l[2])
}

func TestAStackOfOnePlace(t *testing.T) {
	for _, room := range tightRooms {
		a, l := heap(t, 4)
		m := mark.New(a, room)
		shade(t, m, l[2], l[3], l[1], l[0])
		wantScanned(t, m, l[2], l[0], l[1], l[3])
	}
}

func TestThatItRanOverIsSettledWhenTheStackIsEmpty(t *testing.T) {
	a, l := heap(t, 4)
	m := mark.New(a, 2)
	shade(t, m, l[2], l[3], l[1]) // the last one has no place
	want(t, "Trace", m.Trace(1), 1)
	shade(t, m, l[0]) // it has the place that was left
	wantScanned(t, m, l[0], l[2], l[1])
}

func TestItIsNotSettledAheadOfTheNextOne(t *testing.T) {
	a, l := heap(t, 3)
	m := mark.New(a, 1)
	shade(t, m, l[1], l[0])
	want(t, "Trace", m.Trace(1), 1)
	shade(t, m, l[2]) // the stack is empty: it has a place
	wantScanned(t, m, l[2], l[0])
}

func TestOnesThatAreGreyAgainRunOver(t *testing.T) {
	a, l := heap(t, 4)
	m := mark.New(a, 2)
	blacken(m, l...)
	regrey(t, m, l[3], l[1], l[2], l[0])
	wantScanned(t, m, l[1], l[3], l[2], l[0])
}

func TestBlackenedOnesAreNotPushedAgain(t *testing.T) {
	for _, room := range tightRooms {
		a, l := heap(t, 5)
		m := mark.New(a, room)
		shade(t, m, l...)
		blacken(m, l[0], l[1], l[3])
		wantColours(t, m, []api.Ref{l[2], l[4]}, []api.Ref{l[0], l[1], l[3]})
		wantScanned(t, m, l[2], l[4])
	}
}

func TestItRanOverAndNoneIsGrey(t *testing.T) {
	for _, room := range tightRooms {
		a, l := heap(t, 3)
		m := mark.New(a, room)
		shade(t, m, l...)
		blacken(m, l...)
		want(t, "Trace", m.Trace(9), 0)
		wantColours(t, m, nil, l)
		regrey(t, m, l...)
		wantScanned(t, m, l[0], l[1], l[2])
	}
}

func TestAllAreWhiteBehindReset(t *testing.T) {
	for _, room := range rooms {
		a, l := heap(t, 5)
		list(t, a, l)
		m := mark.New(a, room)
		for range 2 {
			shade(t, m, l[4], l[0])
			want(t, "Trace", m.Trace(2), 2)
			m.Reset()
			wantColours(t, m, nil, nil)
			want(t, "Trace", m.Trace(9), 0)
			want(t, "Regrey", m.Regrey(l[0]), false)
		}
		blacken(m, l...)
		m.Reset()
		wantColours(t, m, nil, nil)
		m.Reset()
		wantColours(t, m, nil, nil)
		want(t, "Arena", m.Arena(), a)
	}
}

func TestTheStackIsEmptyBehindReset(t *testing.T) {
	a, l := heap(t, 4)
	m := mark.New(a, 2)
	for range 2 { // it is as full as can be, and ran over
		shade(t, m, l...)
		m.Reset()
	}
	shade(t, m, l[3], l[2], l[0])
	wantScanned(t, m, l[2], l[3], l[0])
	m.Reset()
	shade(t, m, l[1])
	wantScanned(t, m, l[1])
}

func TestAllMayBeLeftAtAnyTime(t *testing.T) {
	a, l := heap(t, 5)
	m := mark.New(a, 2)
	shade(t, m, l[4], l[0], l[3])
	marked := []api.Ref{l[0], l[3], l[4]}
	for n := range marked {
		var got []api.Ref
		for r := range m.All() {
			if got = append(got, r); len(got) == n+1 {
				break
			}
		}
		wantList(t, "All", got, marked[:n+1])
	}
	seq := m.All()
	for range 2 { // it may be gone through again
		wantList(t, "All", slices.Collect(seq), marked)
	}
	wantColours(t, m, marked, nil)
}

func TestTheyMayBeForgottenWhileTheyAreTold(t *testing.T) {
	a, l := heap(t, 5)
	m := mark.New(a, 2)
	blacken(m, l...)
	var got []api.Ref
	for r := range m.All() {
		got = append(got, r)
		m.Forget(r)
	}
	wantList(t, "All", got, l)
	wantColours(t, m, nil, nil)
}

func TestFieldsThatPointToNoObject(t *testing.T) {
	for _, room := range rooms {
		for _, to := range noRefs {
			a, l := heap(t, 3)
			a.Give(l[1])
			m := mark.New(a, room)
			point(t, a, l[0], to, l[2])
			point(t, a, l[2], l[1])
			shade(t, m, l[0])
			want(t, "Trace", m.Trace(9), 2)
			wantColours(t, m, nil, []api.Ref{l[0], l[2]})
		}
	}
}

func TestACellThatWasGivenBackHasNoObject(t *testing.T) {
	for _, room := range rooms {
		a, l := heap(t, 5)
		list(t, a, l)
		m := mark.New(a, room)
		shade(t, m, l[0], l[2], l[3])
		m.Blacken(l[0])
		a.Give(l[0])
		a.Give(l[2])
		wantColours(t, m, l[3:4], nil)
		want(t, "Trace", m.Trace(9), 2)
		wantColours(t, m, nil, l[3:])
		regrey(t, m, l[3])
		a.Give(l[3])
		wantColours(t, m, nil, l[4:])
		want(t, "Trace", m.Trace(9), 0)
	}
}

func TestTheArenaIsNotChanged(t *testing.T) {
	a, l := heap(t, 3)
	list(t, a, l)
	before := words(a)
	m := mark.New(a, 1)
	shade(t, m, l[0])
	m.Trace(9)
	regrey(t, m, l[1])
	m.Forget(l[2])
	m.Reset()
	blacken(m, l...)
	wantList(t, "the arena", words(a), before)
}

// words are those of an arena's objects.
func words(a *arena.Arena) []int {
	var l []int
	for r := range a.All() {
		l = append(l, int(r))
		for i := range api.PageWords {
			l = append(l, a.Word(r, i))
		}
	}
	return l
}

func TestMarkersAreApart(t *testing.T) {
	a, l := heap(t, 4)
	x, y := mark.New(a, 1), mark.New(a, 1)
	shade(t, x, l[0], l[1])
	wantColours(t, y, nil, nil)
	want(t, "Trace", y.Trace(9), 0)
	shade(t, y, l[2])
	y.Blacken(l[3])
	x.Forget(l[3])
	x.Reset()
	wantColours(t, y, l[2:3], l[3:])
	wantColours(t, x, nil, nil)
}

func TestWhatIsShadedLeadsToJustWhatIsMarked(t *testing.T) {
	rnd := rand.New(rand.NewSource(1))
	for range 150 {
		a, l := heapAtRandom(t, rnd, 1+rnd.Intn(60))
		for _, room := range rooms {
			m, roots := mark.New(a, room), somewhere(rnd, l)
			for _, r := range roots {
				m.Shade(r)
			}
			scanned := 0
			for !m.Drained() {
				n := 1 + rnd.Intn(5)
				did := m.Trace(n)
				if scanned += did; did < n && !m.Drained() {
					t.Fatal("Trace ended while some were grey")
				}
			}
			all := reached(a, roots)
			wantColours(t, m, nil, all)
			want(t, "how many were scanned", scanned, len(all))
		}
	}
}

func TestALongListHoweverLittleRoomThereIs(t *testing.T) {
	a := arena.New(api.MaxPages)
	var l []api.Ref
	for a.Room(1) {
		l = append(l, born(t, a, 2))
	}
	slices.Reverse(l)
	for i, r := range l {
		point(t, a, r, l[(i+1)%len(l)], l[i/2])
	}
	for _, room := range rooms {
		m := mark.New(a, room)
		shade(t, m, l[0])
		want(t, "Trace", m.Trace(math.MaxInt), 512)
		want(t, "Count", m.Count(), 512)
		want(t, "Drained", m.Drained(), true)
	}
}

// heapAtRandom is an arena with so many objects that point anywhere among them.
func heapAtRandom(t *testing.T, rnd *rand.Rand, n int) (*arena.Arena, []api.Ref) {
	t.Helper()
	a := arena.New(api.MaxPages)
	var l []api.Ref
	for range n {
		l = append(l, born(t, a, rnd.Intn(api.MaxFields+1)))
	}
	for _, r := range l {
		for i := range cell.Fields(a, r) {
			if rnd.Intn(3) == 0 {
				want(t, "SetField", cell.SetField(a, r, i, l[rnd.Intn(n)]), api.OK)
			}
		}
	}
	return a, l
}

// somewhere is a few of these, some of them more than once.
func somewhere(rnd *rand.Rand, l []api.Ref) []api.Ref {
	var some []api.Ref
	for range rnd.Intn(6) {
		some = append(some, l[rnd.Intn(len(l))])
	}
	return some
}

// reached is all that these lead to, themselves with it, rising.
func reached(a *arena.Arena, roots []api.Ref) []api.Ref {
	seen := map[api.Ref]bool{}
	work := slices.Clone(roots)
	for len(work) > 0 {
		r := work[0]
		work = work[1:]
		if seen[r] {
			continue
		}
		seen[r] = true
		work = slices.AppendSeq(work, cell.Points(a, r))
	}
	var l []api.Ref
	for r := range a.All() {
		if seen[r] {
			l = append(l, r)
		}
	}
	return l
}

// model does what a marker does, by a colour for each object, and a list for the stack.
type model struct {
	arena  *arena.Arena
	colour map[api.Ref]int // 0 white, 1 grey, 2 black
	stack  []api.Ref
	room   int
	over   bool
}

func newModel(a *arena.Arena, room int) *model {
	return &model{arena: a, room: room, colour: map[api.Ref]int{}}
}

// turn: it becomes grey, if it has the colour from.
func (m *model) turn(r api.Ref, from int) bool {
	if m.colour[r] != from {
		return false
	}
	m.colour[r] = 1
	m.push(r)
	return true
}

func (m *model) push(r api.Ref) {
	if len(m.stack) == m.room {
		m.over = true
		return
	}
	m.stack = append(m.stack, r)
}

func (m *model) of(colour int) []api.Ref {
	var l []api.Ref
	for r := range m.arena.All() {
		if m.colour[r] == colour {
			l = append(l, r)
		}
	}
	return l
}

func (m *model) trace(n int) int {
	did := 0
	for did < n && (len(m.stack) > 0 || m.over) {
		if len(m.stack) == 0 {
			m.over = false
			for _, r := range m.of(1) {
				m.push(r)
			}
			continue
		}
		top := len(m.stack) - 1
		r := m.stack[top]
		m.stack = m.stack[:top]
		if m.colour[r] != 1 {
			continue
		}
		m.colour[r] = 2
		for to := range cell.Points(m.arena, r) {
			m.turn(to, 0)
		}
		did++
	}
	return did
}

func TestAgainstAModel(t *testing.T) {
	rnd := rand.New(rand.NewSource(2))
	for range 40 {
		for _, room := range []int{1, 2, 3, 7, 40} {
			a, l := heapAtRandom(t, rnd, 1+rnd.Intn(20))
			m, like := mark.New(a, room), newModel(a, room)
			for range 100 {
				step(t, rnd, l, m, like)
				wantColours(t, m, like.of(1), like.of(2))
			}
		}
	}
}

// step does one thing to both.
func step(t *testing.T, rnd *rand.Rand, l []api.Ref, m *mark.Marker, like *model) {
	t.Helper()
	r := l[rnd.Intn(len(l))]
	switch i := rnd.Intn(100); {
	case i < 30:
		want(t, "Shade", m.Shade(r), like.turn(r, 0))
	case i < 40:
		m.Blacken(r)
		like.colour[r] = 2
	case i < 55:
		want(t, "Regrey", m.Regrey(r), like.turn(r, 2))
	case i < 65:
		if like.colour[r] != 1 {
			m.Forget(r)
			like.colour[r] = 0
		}
	case i < 75:
		if n := cell.Fields(like.arena, r); n > 0 {
			cell.SetField(like.arena, r, rnd.Intn(n), l[rnd.Intn(len(l))])
		}
	case i < 98:
		n := rnd.Intn(4)
		want(t, "Trace", m.Trace(n), like.trace(n))
	default:
		m.Reset()
		*like = *newModel(like.arena, like.room)
	}
}
