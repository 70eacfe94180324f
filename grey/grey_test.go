package grey_test

import (
	"math"
	"math/rand"
	"slices"
	"testing"

	"hawthorn/api"
	"hawthorn/grey"
)

var (
	// How many places: those that a configuration may have, past these, and below 0.
	rooms = []int{0, 1, 2, 3, 63, api.MaxMark, 65, 1000, -1, -2, -64, -1 << 32, -1<<32 + 1, math.MinInt + 1, math.MinInt}

	// A place may have any Ref.
	anyRefs = []api.Ref{1, 9, 2048, -1, -32, 1 << 32, math.MaxInt, math.MinInt, 0, 1, 1}
)

func want[T comparable](t *testing.T, what string, got, want T) {
	t.Helper()
	if got != want {
		t.Fatalf("%s: %v, want %v", what, got, want)
	}
}

// wantState: so many are there, and it ran over, or didn't.
func wantState(t *testing.T, s *grey.Stack, length int, over bool) {
	t.Helper()
	for range 2 { // to ask changes nothing
		want(t, "Len", s.Len(), length)
		want(t, "Over", s.Over(), over)
	}
}

func wantPop(t *testing.T, s *grey.Stack, r api.Ref) {
	t.Helper()
	got, ok := s.Pop()
	if got != r || !ok {
		t.Fatalf("Pop: %v, %v, want %v", got, ok, r)
	}
}

// wantEmpty: nothing is there, and nothing is popped.
func wantEmpty(t *testing.T, s *grey.Stack, over bool) {
	t.Helper()
	for range 3 {
		wantState(t, s, 0, over)
		if r, ok := s.Pop(); r != 0 || ok {
			t.Fatalf("Pop of an empty one: %v, %v", r, ok)
		}
	}
	wantState(t, s, 0, over)
}

// wantPops: just these are there, from the bottom on; none is any more then.
func wantPops(t *testing.T, s *grey.Stack, over bool, refs ...api.Ref) {
	t.Helper()
	for i, r := range slices.Backward(refs) {
		wantState(t, s, i+1, over)
		wantPop(t, s, r)
	}
	wantEmpty(t, s, over)
}

func push(t *testing.T, s *grey.Stack, refs ...api.Ref) {
	t.Helper()
	for _, r := range refs {
		want(t, "Push", s.Push(r), true)
	}
}

// refuse: there is no place for these.
func refuse(t *testing.T, s *grey.Stack, refs ...api.Ref) {
	t.Helper()
	for _, r := range refs {
		want(t, "Push", s.Push(r), false)
	}
}

// some are so many Refs, of which some are the same.
func some(n int) []api.Ref {
	l := make([]api.Ref, max(n, 0))
	for i := range l {
		l[i] = anyRefs[i%len(anyRefs)]
	}
	return l
}

// made is one with these, from its bottom on, and more places.
func made(t *testing.T, more int, refs ...api.Ref) *grey.Stack {
	t.Helper()
	s := grey.New(len(refs) + more)
	push(t, s, refs...)
	return s
}

func TestANewOne(t *testing.T) {
	for _, room := range rooms {
		wantEmpty(t, grey.New(room), false)
	}
}

func TestItHasJustSoManyPlaces(t *testing.T) {
	for _, room := range rooms {
		s, l := grey.New(room), some(room)
		for i, r := range l {
			wantState(t, s, i, false)
			push(t, s, r)
		}
		wantState(t, s, len(l), false) // full isn't over
		refuse(t, s, 77)
		wantState(t, s, len(l), true)
		wantPops(t, s, true, l...)
	}
}

func TestWhatIsPushedLastIsPoppedFirst(t *testing.T) {
	for _, room := range rooms {
		s, l := grey.New(room), some(room)
		for range 2 { // a place that was popped may be pushed to again
			push(t, s, l...)
			wantPops(t, s, false, l...)
		}
	}
}

func TestPushesAndPopsBetweenEachOther(t *testing.T) {
	s := grey.New(3)
	push(t, s, 1, 2)
	wantPop(t, s, 2)
	push(t, s, 3, 4)
	wantState(t, s, 3, false)
	wantPop(t, s, 4)
	wantPop(t, s, 3)
	push(t, s, 5)
	wantPops(t, s, false, 1, 5)
}

func TestAnyRefMayBePushed(t *testing.T) {
	for _, r := range anyRefs {
		s := made(t, 1, r)
		wantState(t, s, 1, false)
		push(t, s, r)
		refuse(t, s, r)
		wantPops(t, s, true, r, r)
	}
}

func TestARefThatIsThereMayBePushedAgain(t *testing.T) {
	s := made(t, 0, 5, 5, 6, 5)
	refuse(t, s, 5)
	wantPops(t, s, true, 5, 5, 6, 5)
}

func TestZerosTakePlaces(t *testing.T) {
	s := made(t, 0, 0, 0)
	wantState(t, s, 2, false)
	refuse(t, s, 0)
	wantPops(t, s, true, 0, 0)
}

func TestWhatHasNoPlaceIsNotThere(t *testing.T) {
	for _, room := range rooms {
		l := some(room)
		s := grey.New(room)
		push(t, s, l...)
		for range 2 {
			refuse(t, s, anyRefs...)
			wantState(t, s, len(l), true)
		}
		wantPops(t, s, true, l...)
	}
}

func TestOneWithNoPlaces(t *testing.T) {
	for _, room := range rooms {
		if room > 0 {
			continue
		}
		s := grey.New(room)
		for range 2 {
			refuse(t, s, anyRefs...)
			wantEmpty(t, s, true)
			s.Settle()
			wantEmpty(t, s, false)
			refuse(t, s, 0)
			wantEmpty(t, s, true)
			s.Reset()
			wantEmpty(t, s, false)
		}
	}
}

func TestItRanOverTillThatIsSettled(t *testing.T) {
	s := made(t, 0, 1, 2)
	refuse(t, s, 3)
	wantPop(t, s, 2)
	wantState(t, s, 1, true) // that there is a place again settles nothing
	push(t, s, 4)
	wantState(t, s, 2, true)
	wantPops(t, s, true, 1, 4)
	push(t, s, 5)
	wantState(t, s, 1, true)
	s.Settle()
	wantState(t, s, 1, false)
	wantPops(t, s, false, 5)
}

func TestSettleLeavesWhatIsThere(t *testing.T) {
	for _, room := range []int{1, 2, 3, api.MaxMark} {
		s, l := grey.New(room), some(room)
		push(t, s, l...)
		s.Settle() // it didn't run over
		wantState(t, s, room, false)
		for range 2 {
			refuse(t, s, 77)
			wantState(t, s, room, true)
			s.Settle() // nothing is gone by it: there is no place yet
			wantState(t, s, room, false)
			s.Settle()
			wantState(t, s, room, false)
		}
		wantPops(t, s, false, l...)
	}
}

func TestSettleOfAnEmptyOne(t *testing.T) {
	s := grey.New(1)
	s.Settle()
	wantEmpty(t, s, false)
	push(t, s, 1)
	refuse(t, s, 2)
	wantPop(t, s, 1)
	s.Settle()
	wantEmpty(t, s, false)
}

func TestAPopThatFailsSettlesNothing(t *testing.T) {
	s := made(t, 0, 1)
	refuse(t, s, 2)
	wantPop(t, s, 1)
	wantEmpty(t, s, true)
	push(t, s, 3) // it made no room, and took none
	refuse(t, s, 4)
	wantPops(t, s, true, 3)
}

func TestResetEmptiesIt(t *testing.T) {
	for _, room := range rooms {
		for _, less := range []int{0, 1, 2} {
			s, l := grey.New(room), some(max(room, 0)-less)
			for range 2 { // all its places are there again
				push(t, s, l...)
				s.Reset()
				wantEmpty(t, s, false)
			}
			l = some(room)
			push(t, s, l...)
			refuse(t, s, 77)
			wantState(t, s, len(l), true)
			s.Reset()
			wantEmpty(t, s, false)
			push(t, s, l...)
			wantState(t, s, len(l), false)
			refuse(t, s, 77)
			wantPops(t, s, true, l...)
			s.Reset() // nothing is there, but it ran over
			wantEmpty(t, s, false)
		}
	}
}

func TestMorePlacesThanThereIsMemoryFor(t *testing.T) {
	for _, room := range []int{1 << 31, 1 << 32, 1 << 62, math.MaxInt - 1, math.MaxInt} {
		s, l := grey.New(room), some(5000)
		for range 2 {
			push(t, s, l...)
			wantPops(t, s, false, l...)
		}
		push(t, s, l...)
		s.Reset()
		wantEmpty(t, s, false)
		push(t, s, 3)
		wantPops(t, s, false, 3)
	}
}

func TestStacksAreApart(t *testing.T) {
	x, y := grey.New(2), grey.New(2)
	push(t, x, 1, 2)
	refuse(t, x, 3)
	wantState(t, y, 0, false)
	push(t, y, 4)
	x.Settle()
	push(t, y, 5)
	refuse(t, y, 6)
	wantState(t, x, 2, false)
	y.Reset()
	wantPops(t, x, false, 1, 2)
	wantEmpty(t, y, false)
}

// model does what a stack does, by lists that are made anew.
type model struct {
	refs []api.Ref
	room int
	over bool
}

func (m *model) push(r api.Ref) bool {
	if len(m.refs) == m.room {
		m.over = true
		return false
	}
	m.refs = append(slices.Clone(m.refs), r)
	return true
}

func (m *model) pop() (api.Ref, bool) {
	n := len(m.refs)
	if n == 0 {
		return 0, false
	}
	r := m.refs[n-1]
	m.refs = slices.Clone(m.refs[:n-1])
	return r, true
}

func TestAgainstAModel(t *testing.T) {
	rnd := rand.New(rand.NewSource(1))
	for _, room := range []int{0, 1, 2, 3, 8, 40} {
		s, m := grey.New(room), &model{room: room}
		for range 5000 {
			step(t, rnd, s, m)
			wantState(t, s, len(m.refs), m.over)
		}
		wantPops(t, s, m.over, m.refs...)
	}
}

// step does one thing to both.
func step(t *testing.T, rnd *rand.Rand, s *grey.Stack, m *model) {
	t.Helper()
	switch i := rnd.Intn(100); {
	case i < 55:
		r := api.Ref(rnd.Intn(5))
		want(t, "Push", s.Push(r), m.push(r))
	case i < 90:
		got, ok := s.Pop()
		r, is := m.pop()
		want(t, "Pop", got, r)
		want(t, "Pop", ok, is)
	case i < 97:
		s.Settle()
		m.over = false
	default:
		s.Reset()
		m.refs, m.over = nil, false
	}
}
