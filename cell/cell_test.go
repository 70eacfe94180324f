package cell_test

import (
	"iter"
	"math"
	"math/rand"
	"slices"
	"testing"

	"hawthorn/api"
	"hawthorn/arena"
	"hawthorn/cell"
)

// What the document says, in numbers: classOf of objects with so many fields, how many cells a page has of each
// class, and how many words each of them has.
var (
	classOf   = [...]int{0, 1, 1, 2, 2, 2, 2}
	pageCells = [...]int{16, 8, 4}
	cellWords = [...]int{2, 4, 8}
)

var (
	anyNumbers = []int{0, 1, -1, 2, -7, 64, 1 << 32, -1 << 32, 1<<53 + 1, math.MaxInt32, math.MinInt32, math.MaxInt, math.MaxInt - 1, math.MinInt, math.MinInt + 1}
	noFields   = []int{-1, -2, -3, -6, 6, 7, 8, 30, 32, 64, 1 << 32, -1 << 32, 1<<32 + 1, math.MaxInt, math.MaxInt - 1, math.MaxInt - 2, math.MinInt, math.MinInt + 1, math.MinInt + 2}
	tooFew     = []int{-1, -2, -3, -6, -1 << 32, math.MinInt, math.MinInt + 1, math.MinInt + 2}
	tooMany    = []int{7, 8, 9, 30, 32, 1 << 32, 1<<32 + 1, math.MaxInt, math.MaxInt - 1, math.MaxInt - 2}
)

func want[T comparable](t *testing.T, what string, got, want T) {
	t.Helper()
	if got != want {
		t.Fatalf("%s: %v, want %v", what, got, want)
	}
}

// born is a new object, which there is room for.
func born(t *testing.T, a *arena.Arena, fields int) api.Ref {
	t.Helper()
	r, e := cell.New(a, fields)
	if e != api.OK || r == 0 {
		t.Fatalf("New of %d fields: %d, %v", fields, r, e)
	}
	return r
}

func unborn(t *testing.T, a *arena.Arena, fields int, why api.Errno) {
	t.Helper()
	before := snapshot(a)
	if r, e := cell.New(a, fields); r != 0 || e != why {
		t.Fatalf("New of %d fields: %d, %v, want 0, %v", fields, r, e, why)
	}
	if !slices.Equal(snapshot(a), before) {
		t.Fatalf("New of %d fields has changed the arena", fields)
	}
}

func set(t *testing.T, a *arena.Arena, r api.Ref, fields ...api.Ref) {
	t.Helper()
	for i, to := range fields {
		want(t, "SetField", cell.SetField(a, r, i, to), api.OK)
	}
}

func wantFields(t *testing.T, a *arena.Arena, r api.Ref, fields ...api.Ref) {
	t.Helper()
	want(t, "Fields", cell.Fields(a, r), len(fields))
	for i, to := range fields {
		got, e := cell.Field(a, r, i)
		want(t, "Field", got, to)
		want(t, "Field's error", e, api.OK)
	}
}

func wantScalar(t *testing.T, a *arena.Arena, r api.Ref, x int) {
	t.Helper()
	got, e := cell.Scalar(a, r)
	want(t, "Scalar", got, x)
	want(t, "Scalar's error", e, api.OK)
}

func wantPoints(t *testing.T, got iter.Seq[api.Ref], want ...api.Ref) {
	t.Helper()
	if l := slices.Collect(got); !slices.Equal(l, want) {
		t.Fatalf("Points: %v, want %v", l, want)
	}
}

// snapshot is all that can be seen of an arena.
func snapshot(a *arena.Arena) []int {
	l := []int{a.Free()}
	for page := range a.Pages() {
		l = append(l, a.Class(page))
	}
	for r := range a.All() {
		l = append(l, int(r))
		for i := range cellWords[a.Class(a.Page(r))] {
			l = append(l, a.Word(r, i))
		}
	}
	return l
}

// full is an arena with no room for an object of any class.
func full(t *testing.T, fields int) (*arena.Arena, []api.Ref) {
	t.Helper()
	a := arena.New(2)
	var l []api.Ref
	for range 2 * pageCells[classOf[fields]] {
		l = append(l, born(t, a, fields))
	}
	return a, l
}

func TestANewObjectHasItsFieldsAndNothingInThem(t *testing.T) {
	for fields, class := range classOf {
		a := arena.New(2)
		for k := range 2 * pageCells[class] {
			r := born(t, a, fields)
			want(t, "Ref", r, api.Ref(k*cellWords[class]+1))
			want(t, "class", a.Class(a.Page(r)), class)
			wantFields(t, a, r, make([]api.Ref, fields)...)
			wantScalar(t, a, r, 0)
			wantPoints(t, cell.Points(a, r))
		}
		unborn(t, a, fields, api.ErrMem)
	}
}

func TestANewObjectHasNothingOfTheOneAheadOfIt(t *testing.T) {
	for before := range classOf {
		for behind := range classOf {
			a := arena.New(1)
			r := born(t, a, before)
			cell.SetScalar(a, r, 77)
			for i := range before {
				cell.SetField(a, r, i, r)
			}
			a.Give(r)
			want(t, "Ref", born(t, a, behind), r)
			wantFields(t, a, r, make([]api.Ref, behind)...)
			wantScalar(t, a, r, 0)
			wantPoints(t, cell.Points(a, r))
		}
	}
}

func TestNoObjectHasSoFewFields(t *testing.T) {
	a := arena.New(2)
	born(t, a, 3)
	for _, fields := range tooFew {
		unborn(t, a, fields, api.ErrField)
		unborn(t, arena.New(0), fields, api.ErrField)
	}
}

func TestNoObjectHasSoManyFields(t *testing.T) {
	a := arena.New(2)
	born(t, a, 3)
	for _, fields := range tooMany {
		unborn(t, a, fields, api.ErrBig)
		unborn(t, arena.New(0), fields, api.ErrBig)
	}
}

func TestNoRoom(t *testing.T) {
	for fields := range classOf {
		unborn(t, arena.New(0), fields, api.ErrMem)
		a, l := full(t, fields)
		for other := range classOf {
			unborn(t, a, other, api.ErrMem)
		}
		for _, fields := range tooFew {
			unborn(t, a, fields, api.ErrField)
		}
		for _, fields := range tooMany {
			unborn(t, a, fields, api.ErrBig)
		}
		a.Give(l[2])
		want(t, "Ref", born(t, a, fields), l[2])
	}
}

func TestNoRoomIsThatOfAClass(t *testing.T) {
	a := arena.New(2)
	want(t, "Ref", born(t, a, 2), 1)
	want(t, "Ref", born(t, a, 5), 33)
	unborn(t, a, 0, api.ErrMem)
	want(t, "Ref", born(t, a, 1), 5)
	want(t, "Ref", born(t, a, 3), 41)
	a.Give(1)
	unborn(t, a, 0, api.ErrMem)
	a.Give(5) // the page is free, and may be of any class
	want(t, "Ref", born(t, a, 0), 1)
	unborn(t, a, 2, api.ErrMem)
}

func TestNothingOfNoObject(t *testing.T) {
	a := arena.New(1)
	r := born(t, a, 6)
	set(t, a, r, 1, 2, 3, 4, 5, 6)
	before := snapshot(a)
	want(t, "Fields of 0", cell.Fields(a, 0), 0)
	for _, i := range append([]int{0, 1, 5}, noFields...) {
		to, e := cell.Field(a, 0, i)
		want(t, "Field of 0", to, 0)
		want(t, "Field of 0", e, api.ErrNil)
		want(t, "SetField of 0", cell.SetField(a, 0, i, r), api.ErrNil)
		want(t, "SetField of 0", cell.SetField(a, 0, i, 0), api.ErrNil)
	}
	for _, x := range anyNumbers {
		want(t, "SetScalar of 0", cell.SetScalar(a, 0, x), api.ErrNil)
	}
	x, e := cell.Scalar(a, 0)
	want(t, "Scalar of 0", x, 0)
	want(t, "Scalar of 0", e, api.ErrNil)
	wantPoints(t, cell.Points(a, 0))
	if !slices.Equal(snapshot(a), before) {
		t.Fatal("the arena has changed")
	}
}

func TestNothingOfNoObjectInAnArenaWithoutPages(t *testing.T) {
	a := arena.New(0)
	want(t, "Fields of 0", cell.Fields(a, 0), 0)
	want(t, "SetField of 0", cell.SetField(a, 0, 0, 1), api.ErrNil)
	want(t, "SetScalar of 0", cell.SetScalar(a, 0, 1), api.ErrNil)
	wantPoints(t, cell.Points(a, 0))
}

func TestFieldsThatThereAreNot(t *testing.T) {
	for fields := range classOf {
		a, l := full(t, fields)
		for k, r := range l {
			cell.SetScalar(a, r, 100+k)
			for i := range fields {
				cell.SetField(a, r, i, l[(k+i)%len(l)])
			}
		}
		before := snapshot(a)
		for _, r := range l {
			for i := fields; i < 40; i++ {
				wantNoField(t, a, r, i)
			}
			for _, i := range noFields {
				if i >= 0 && i < fields {
					continue
				}
				wantNoField(t, a, r, i)
			}
		}
		if !slices.Equal(snapshot(a), before) {
			t.Fatalf("%d fields: the arena has changed", fields)
		}
	}
}

func wantNoField(t *testing.T, a *arena.Arena, r api.Ref, i int) {
	t.Helper()
	to, e := cell.Field(a, r, i)
	if to != 0 || e != api.ErrField {
		t.Fatalf("Field %d of %d: %d, %v", i, r, to, e)
	}
	if e := cell.SetField(a, r, i, 7777); e != api.ErrField {
		t.Fatalf("SetField %d of %d: %v", i, r, e)
	}
}

func TestEachFieldIsItsOwn(t *testing.T) {
	for fields := range classOf {
		a, l := full(t, fields)
		for k, r := range l {
			cell.SetScalar(a, r, -1-k)
			for i := range fields {
				want(t, "SetField", cell.SetField(a, r, i, api.Ref(10*k+i+1)), api.OK)
			}
		}
		for k, r := range l {
			wantScalar(t, a, r, -1-k)
			var to []api.Ref
			for i := range fields {
				to = append(to, api.Ref(10*k+i+1))
			}
			wantFields(t, a, r, to...)
			wantPoints(t, cell.Points(a, r), to...)
		}
	}
}

func TestAFieldIsWrittenAgain(t *testing.T) {
	a := arena.New(2)
	r := born(t, a, 3)
	set(t, a, r, 1, 9, 17)
	set(t, a, r, 17, 0)
	wantFields(t, a, r, 17, 0, 17)
	set(t, a, r, 0, 0, 0)
	wantFields(t, a, r, 0, 0, 0)
}

func TestWhatStandsInAFieldIsWhatWasWritten(t *testing.T) {
	a := arena.New(1)
	r := born(t, a, 2)
	for _, x := range anyNumbers {
		set(t, a, r, api.Ref(x))
		wantFields(t, a, r, api.Ref(x), 0)
		if x != 0 {
			wantPoints(t, cell.Points(a, r), api.Ref(x))
		}
	}
}

func TestAnObjectsNumberIsAny(t *testing.T) {
	for fields := range classOf {
		a := arena.New(1)
		r, k := born(t, a, fields), born(t, a, fields)
		for _, x := range anyNumbers {
			want(t, "SetScalar", cell.SetScalar(a, r, x), api.OK)
			wantScalar(t, a, r, x)
			wantScalar(t, a, k, 0)
			wantFields(t, a, r, make([]api.Ref, fields)...)
		}
	}
}

func TestTheWordsOfAnObject(t *testing.T) {
	a := arena.New(1)
	born(t, a, 4)
	r := born(t, a, 5)
	cell.SetScalar(a, r, -3)
	set(t, a, r, 1, 9, 0, 9, 17)
	for i, x := range []int{5, -3, 1, 9, 0, 9, 17, 0} {
		want(t, "Word", a.Word(r, i), x)
	}
	a.Set(r, 1, 8)
	a.Set(r, 4, 25)
	wantScalar(t, a, r, 8)
	wantFields(t, a, r, 1, 9, 25, 9, 17)
}

func TestPointsAreTheFieldsThatAreNot0(t *testing.T) {
	for _, l := range [][]api.Ref{
		{},
		{0}, {1}, {33},
		{0, 0}, {0, 5}, {5, 0}, {5, 1}, {5, 5},
		{0, 0, 9}, {9, 0, 0}, {17, 0, 9}, {1, 1, 1},
		{0, 9, 0, 1}, {25, 17, 9, 1},
		{1, 0, 9, 0, 17}, {0, 0, 0, 0, 0},
		{0, 17, 0, 9, 0, 1}, {17, 0, 9, 0, 1, 0}, {6, 5, 4, 3, 2, 1}, {0, 0, 0, 0, 0, 33},
	} {
		a := arena.New(2)
		r := born(t, a, len(l))
		cell.SetScalar(a, r, 99)
		set(t, a, r, l...)
		points := slices.DeleteFunc(slices.Clone(l), func(r api.Ref) bool { return r == 0 })
		wantPoints(t, cell.Points(a, r), points...)
	}
}

func TestPointsAreLeft(t *testing.T) {
	a := arena.New(1)
	r := born(t, a, 6)
	set(t, a, r, 1, 9, 0, 17, 25, 1)
	points := cell.Points(a, r)
	for stop := range 5 {
		n := 0
		for range points {
			if n == stop {
				break
			}
			n++
		}
		want(t, "told", n, stop)
	}
	wantPoints(t, points, 1, 9, 17, 25, 1)
	wantPoints(t, points, 1, 9, 17, 25, 1)
	wantFields(t, a, r, 1, 9, 0, 17, 25, 1)
}

func TestPointsWithinPoints(t *testing.T) {
	a := arena.New(1)
	r := born(t, a, 3)
	set(t, a, r, 1, 0, 9)
	var l []api.Ref
	points := cell.Points(a, r)
	for x := range points {
		for y := range points {
			l = append(l, x, y)
		}
	}
	if !slices.Equal(l, []api.Ref{1, 1, 1, 9, 9, 1, 9, 9}) {
		t.Fatal(l)
	}
}

func TestPointsAreThoseOfNow(t *testing.T) {
	a := arena.New(1)
	r := born(t, a, 3)
	points := cell.Points(a, r)
	wantPoints(t, points)
	set(t, a, r, 1, 0, 9)
	wantPoints(t, points, 1, 9)
	set(t, a, r, 0, 17)
	wantPoints(t, points, 17, 9)
}

func TestFieldsAreWrittenWhileTheyAreTold(t *testing.T) {
	a := arena.New(1)
	r := born(t, a, 4)
	set(t, a, r, 1, 9, 0, 25)
	var l []api.Ref
	for to := range cell.Points(a, r) {
		l = append(l, to)
		set(t, a, r, 0, 0, 17)
	}
	if !slices.Equal(l, []api.Ref{1, 17, 25}) {
		t.Fatal(l)
	}
}

func TestAnObjectIsGivenBackWhileItsFieldsAreTold(t *testing.T) {
	a := arena.New(1)
	r := born(t, a, 4)
	set(t, a, r, 1, 9, 17, 25)
	var l []api.Ref
	for to := range cell.Points(a, r) {
		l = append(l, to)
		a.Give(r)
	}
	if !slices.Equal(l, []api.Ref{1}) {
		t.Fatal(l)
	}
}

func TestArenasAreApart(t *testing.T) {
	a, b := arena.New(1), arena.New(1)
	want(t, "Ref", born(t, a, 2), 1)
	want(t, "Ref", born(t, b, 4), 1)
	cell.SetScalar(a, 1, 5)
	set(t, a, 1, 1, 5)
	wantFields(t, b, 1, 0, 0, 0, 0)
	wantScalar(t, b, 1, 0)
	wantFields(t, a, 1, 1, 5)
	wantScalar(t, a, 1, 5)
}

// object is what a model knows of one.
type object struct {
	scalar int
	fields []api.Ref
}

// model does what the calls do, by a map of objects: where they lie is the arena's to say.
type model map[api.Ref]*object

func (m model) refs() []api.Ref {
	var l []api.Ref
	for r := range m {
		l = append(l, r)
	}
	slices.Sort(l)
	return l
}

func (m model) check(r api.Ref, i int) api.Errno {
	switch {
	case r == 0:
		return api.ErrNil
	case i < 0 || i >= len(m[r].fields):
		return api.ErrField
	}
	return api.OK
}

func newErr(a *arena.Arena, fields int) api.Errno {
	switch {
	case fields < 0:
		return api.ErrField
	case fields > 6:
		return api.ErrBig
	case !a.Room(classOf[fields]):
		return api.ErrMem
	}
	return api.OK
}

func compare(t *testing.T, a *arena.Arena, m model) {
	t.Helper()
	if l := slices.Collect(a.All()); !slices.Equal(l, m.refs()) {
		t.Fatalf("objects %v, want %v", l, m.refs())
	}
	for r, o := range m {
		wantFields(t, a, r, o.fields...)
		wantScalar(t, a, r, o.scalar)
		wantPoints(t, cell.Points(a, r), slices.DeleteFunc(slices.Clone(o.fields), func(r api.Ref) bool { return r == 0 })...)
	}
}

// step does one call on both.
func step(t *testing.T, rnd *rand.Rand, a *arena.Arena, m model) {
	t.Helper()
	refs := append(m.refs(), 0)
	r, to := refs[rnd.Intn(len(refs))], refs[rnd.Intn(len(refs))]
	i, x := rnd.Intn(9)-1, rnd.Int()-rnd.Int()
	switch rnd.Intn(8) {
	case 0, 1:
		why := newErr(a, i)
		got, e := cell.New(a, i)
		want(t, "New", e, why)
		want(t, "New's Ref", got != 0, why == api.OK)
		if e == api.OK {
			want(t, "New of one that is there", m[got], nil)
			m[got] = &object{fields: make([]api.Ref, i)}
		}
	case 2:
		want(t, "Give", a.Give(r), r != 0)
		delete(m, r)
	case 3:
		if r == 0 {
			want(t, "SetScalar", cell.SetScalar(a, r, x), api.ErrNil)
			return
		}
		want(t, "SetScalar", cell.SetScalar(a, r, x), api.OK)
		m[r].scalar = x
	default:
		want(t, "SetField", cell.SetField(a, r, i, to), m.check(r, i))
		if m.check(r, i) == api.OK {
			m[r].fields[i] = to
		}
	}
}

func TestAgainstAModel(t *testing.T) {
	rnd := rand.New(rand.NewSource(1))
	for _, pages := range []int{0, 1, 2, 5, 64} {
		a, m := arena.New(pages), model{}
		for range 4000 {
			step(t, rnd, a, m)
			compare(t, a, m)
		}
	}
}
