package engine_test

import (
	"iter"
	"math"
	"math/rand"
	"slices"
	"strconv"
	"testing"

	"hawthorn/api"
	"hawthorn/arena"
	"hawthorn/cell"
	"hawthorn/dijkstra"
	"hawthorn/engine"
	"hawthorn/mark"
	"hawthorn/steele"
	"hawthorn/vyb"
	"hawthorn/yuasa"
)

type refs = []api.Ref

// Refs that no object has in an arena with objects of two fields in each cell.
var noRefs = refs{0, -1, -4, -32, 2, 3, 4, 34, api.MaxPages*api.PageWords + 1, 1 << 32, 1<<32 + 1, math.MaxInt, math.MinInt, math.MinInt + 1}

// engines are the names of the four, by their numbers.
var engines = []string{api.Steele: "steele", api.Dijkstra: "dijkstra", api.Yuasa: "yuasa", api.Vyb: "vyb"}

func want[T comparable](t *testing.T, what string, got, want T) {
	t.Helper()
	if got != want {
		t.Fatalf("%s: %v, want %v", what, got, want)
	}
}

// each runs a test for each engine.
func each(t *testing.T, do func(t *testing.T, e int)) {
	for e, name := range engines {
		t.Run(name, func(t *testing.T) { do(t, e) })
	}
}

// of is a configuration that may be, of an engine with so many places for its log.
func of(e, log int) api.Config {
	return api.Config{Engine: e, Black: true, Pages: 3, Threads: 2, Regs: 4, Stack: 3, Globals: 2, Fields: 5, Mark: 7, Log: log, Budget: 6}
}

func born(t *testing.T, a *arena.Arena, fields int) api.Ref {
	t.Helper()
	r, e := cell.New(a, fields)
	want(t, "New", e, api.OK)
	return r
}

func point(t *testing.T, a *arena.Arena, r api.Ref, i int, to api.Ref) {
	t.Helper()
	want(t, "SetField", cell.SetField(a, r, i, to), api.OK)
}

// full is an arena with objects of two fields in each cell (1, 5, 9, ..), eight a page, and a marker of it.
func full(t *testing.T, pages int) (*arena.Arena, *mark.Marker) {
	t.Helper()
	a := arena.New(pages)
	for a.Room(1) {
		born(t, a, 2)
	}
	return a, mark.New(a, api.MaxMark)
}

// roots tells them.
func roots(l ...api.Ref) iter.Seq[api.Ref] { return slices.Values(l) }

// wantColours: just these are grey, just these are black, and all others white.
func wantColours(t *testing.T, m *mark.Marker, grey, black refs) {
	t.Helper()
	for r := range m.Arena().All() {
		isGrey, isBlack := slices.Contains(grey, r), slices.Contains(black, r)
		if m.Marked(r) != (isGrey || isBlack) || m.Scanned(r) != isBlack {
			t.Fatalf("object %d: marked %v, scanned %v; grey are %v, black %v", r, m.Marked(r), m.Scanned(r), grey, black)
		}
	}
	want(t, "Count", m.Count(), len(grey)+len(black))
	want(t, "Drained", m.Drained(), len(grey) == 0)
}

// wantScanned: one by one just these are scanned, and none is grey behind them.
func wantScanned(t *testing.T, m *mark.Marker, l ...api.Ref) {
	t.Helper()
	for _, r := range l {
		want(t, "Scanned", m.Scanned(r), false)
		want(t, "Trace(1)", m.Trace(1), 1)
		want(t, "Scanned", m.Scanned(r), true)
	}
	want(t, "Trace", m.Trace(math.MaxInt), 0)
}

// write writes to a field, as a thread does.
func write(t *testing.T, b engine.Barrier, m *mark.Marker, src api.Ref, i int, to api.Ref) {
	t.Helper()
	old, _ := cell.Field(m.Arena(), src, i)
	b.Pre(src, old)
	point(t, m.Arena(), src, i, to)
	b.Post(api.Write{Src: src, Old: old, New: to, Black: m.Scanned(src)})
}

// engineOf is the number of the layer's engine whose barrier it is.
func engineOf(b engine.Barrier) int {
	switch b.(type) {
	case *steele.Barrier:
		return api.Steele
	case *dijkstra.Barrier:
		return api.Dijkstra
	case *yuasa.Barrier:
		return api.Yuasa
	case *vyb.Barrier:
		return api.Vyb
	}
	return -1
}

func TestTheExample(t *testing.T) {
	_, m := full(t, 1)
	b, ok := engine.New(of(3, 4), m).(*vyb.Barrier)
	want(t, "a barrier of layer 15", ok, true)
	want(t, "Over", b.Over(), false)
}

func TestNewChoosesTheBarrier(t *testing.T) {
	each(t, func(t *testing.T, e int) {
		_, m := full(t, 1)
		least := api.Config{Engine: e, Black: e == api.Yuasa, Pages: 1, Threads: 1, Regs: 1, Mark: 1, Budget: 1}
		most := api.Config{Engine: e, Black: true, Pages: api.MaxPages, Threads: api.MaxThreads, Regs: api.MaxRegs, Stack: api.MaxStack, Globals: api.MaxGlobals, Fields: api.MaxFields, Mark: api.MaxMark, Log: api.MaxLog, Budget: api.MaxBudget}
		for _, c := range []api.Config{least, most, of(e, 4)} {
			b := engine.New(c, m)
			want(t, "its engine", engineOf(b), e)
			want(t, "Rescans", b.Rescans(), e != api.Yuasa)
		}
	})
}

func TestNewLeavesTheMarker(t *testing.T) {
	each(t, func(t *testing.T, e int) {
		_, m := full(t, 2)
		m.Shade(5)
		m.Shade(1)
		m.Blacken(33)
		engine.New(of(e, 4), m)
		wantColours(t, m, refs{5, 1}, refs{33})
		wantScanned(t, m, 1, 5)
	})
}

func TestEachBarrierIsAnew(t *testing.T) {
	each(t, func(t *testing.T, e int) {
		_, m := full(t, 2)
		c := of(e, 4)
		m.Blacken(1)
		engine.New(c, m).Post(api.Write{Src: 1, Black: true})
		b := engine.New(c, m)
		b.Remark()
		wantColours(t, m, nil, refs{1})
	})
}

func TestPlacesOfTheLog(t *testing.T) {
	for _, room := range []int{0, 1, 2, 5, 6, 7, 8, api.MaxLog} {
		a, m := full(t, 9)
		b := engine.New(of(api.Vyb, room), m).(*vyb.Barrier)
		for i, r := range slices.Collect(a.All())[:room+1] {
			want(t, "Over", b.Over(), false)
			b.Post(api.Write{Src: 1, New: r, Black: true})
			want(t, "Over", b.Over(), i == room)
		}
	}
}

// TestPre: just what one engine's Pre shades.
func TestPre(t *testing.T) {
	each(t, func(t *testing.T, e int) {
		_, m := full(t, 2)
		b := engine.New(of(e, 4), m)
		m.Blacken(33)
		b.Pre(33, 5)
		if e == api.Yuasa {
			wantColours(t, m, refs{5}, refs{33})
		} else {
			wantColours(t, m, nil, refs{33})
		}
	})
}

// TestPostAndRemark: just what each engine shades of a write, and then at Remark.
func TestPostAndRemark(t *testing.T) {
	for _, c := range []struct {
		e      int
		w      api.Write
		posted refs
		grey   refs
		black  refs
	}{
		{api.Steele, api.Write{Src: 33, Old: 1, New: 5, Black: true}, nil, refs{33}, nil},
		{api.Steele, api.Write{Src: 0, Old: 1, New: 5, Black: true}, nil, nil, refs{33}},
		{api.Dijkstra, api.Write{Src: 33, Old: 1, New: 5}, refs{5}, refs{5}, refs{33}},
		{api.Yuasa, api.Write{Src: 33, Old: 1, New: 5}, refs{1}, refs{1}, refs{33}},
		{api.Yuasa, api.Write{Src: 33, Old: 1, New: 5, Early: true}, refs{1, 5}, refs{1, 5}, refs{33}},
		{api.Vyb, api.Write{Src: 33, Old: 1, New: 5, Black: true}, nil, refs{5}, refs{33}},
		{api.Vyb, api.Write{Src: 33, Old: 1, New: 5}, nil, nil, refs{33}},
	} {
		_, m := full(t, 2)
		b := engine.New(of(c.e, 4), m)
		m.Blacken(33)
		b.Post(c.w)
		wantColours(t, m, c.posted, refs{33})
		b.Remark()
		wantColours(t, m, c.grey, c.black)
	}
}

func TestReset(t *testing.T) {
	each(t, func(t *testing.T, e int) {
		_, m := full(t, 2)
		b := engine.New(of(e, 0), m)
		m.Blacken(33)
		m.Shade(9)
		b.Post(api.Write{Src: 33, New: 9, Black: true})
		b.Reset()
		// The marker is as it was, whatever the barrier has of it.
		wantColours(t, m, refs{9}, refs{33})
		m.Reset()
		m.Blacken(33)
		b.Remark()
		wantColours(t, m, nil, refs{33})
	})
}

// A spy is a barrier that notes what it is asked.
type spy struct {
	rescans bool
	said    string
	remark  func()
}

func (s *spy) Pre(src, old api.Ref) { s.said += " pre" }
func (s *spy) Post(w api.Write)     { s.said += " post" }
func (s *spy) Reset()               { s.said += " reset" }

func (s *spy) Remark() {
	s.said += " remark"
	if s.remark != nil {
		s.remark()
	}
}

func (s *spy) Rescans() bool {
	s.said += " rescans"
	return s.rescans
}

// spied tells roots, and notes each, and when there are no more.
func (s *spy) spied(l ...api.Ref) iter.Seq[api.Ref] {
	return func(yield func(api.Ref) bool) {
		for _, r := range l {
			s.said += " " + strconv.Itoa(int(r))
			if !yield(r) {
				return
			}
		}
		s.said += " end"
	}
}

func TestWhatFinishAsks(t *testing.T) {
	_, m := full(t, 2)
	s := &spy{rescans: true}
	want(t, "Finish", engine.Finish(s, m, s.spied(33, 0, 5, 33)), 2)
	want(t, "asked", s.said, " rescans 33 0 5 33 end remark")
	s = &spy{}
	want(t, "Finish", engine.Finish(s, m, s.spied(33, 0, 5, 33)), 0)
	want(t, "asked", s.said, " rescans remark")
}

func TestRootsAreShadedInOrderAheadOfRemark(t *testing.T) {
	a, m := full(t, 2)
	point(t, a, 5, 0, 37)
	m.Shade(13)
	s := &spy{rescans: true}
	s.remark = func() {
		// None of them is scanned till now, and the newest on the stack is the last root.
		wantColours(t, m, refs{13, 33, 5, 9}, nil)
		want(t, "Trace(1)", m.Trace(1), 1)
		want(t, "the last root", m.Scanned(9), true)
		want(t, "Trace(1)", m.Trace(1), 1)
		want(t, "the one ahead of it", m.Scanned(5), true)
		m.Shade(1)
	}
	want(t, "Finish", engine.Finish(s, m, roots(33, 13, 5, 9, 33)), 4)
	wantColours(t, m, nil, refs{13, 33, 5, 9, 37, 1})
}

func TestWhatRemarkMakesGreyIsScanned(t *testing.T) {
	for _, rescans := range []bool{false, true} {
		a, m := full(t, 2)
		point(t, a, 33, 0, 5)
		point(t, a, 5, 1, 9)
		m.Blacken(1)
		point(t, a, 1, 0, 37)
		s := &spy{rescans: rescans}
		s.remark = func() {
			m.Shade(33)
			m.Regrey(1)
		}
		want(t, "Finish", engine.Finish(s, m, roots()), 5)
		wantColours(t, m, nil, refs{1, 5, 9, 33, 37})
	}
}

func TestHowManyWereScanned(t *testing.T) {
	each(t, func(t *testing.T, e int) {
		// A list of 1, 5, 9, .., whose first three are black, and the fourth grey.
		a, m := full(t, 3)
		all := slices.Collect(a.All())
		for i, r := range all[1:] {
			point(t, a, all[i], 1, r)
		}
		b := engine.New(of(e, 4), m)
		m.Shade(1)
		want(t, "Trace(3)", m.Trace(3), 3)
		want(t, "Finish", engine.Finish(b, m, roots(1)), 21)
		wantColours(t, m, nil, all)
		want(t, "Finish", engine.Finish(b, m, roots(1, 5, 93)), 0)
		wantColours(t, m, nil, all)
	})
}

func TestNothingToScan(t *testing.T) {
	each(t, func(t *testing.T, e int) {
		for _, l := range []iter.Seq[api.Ref]{nil, roots(), roots(0, 0), roots(noRefs...)} {
			_, m := full(t, 2)
			m.Blacken(33)
			want(t, "Finish", engine.Finish(engine.New(of(e, 4), m), m, l), 0)
			wantColours(t, m, nil, refs{33})
		}
	})
}

func TestWhatIsGreyIsScannedWithoutRoots(t *testing.T) {
	each(t, func(t *testing.T, e int) {
		for _, l := range []iter.Seq[api.Ref]{nil, roots(), roots(0)} {
			a, m := full(t, 2)
			point(t, a, 5, 1, 33)
			m.Shade(5)
			want(t, "Finish", engine.Finish(engine.New(of(e, 4), m), m, l), 2)
			wantColours(t, m, nil, refs{5, 33})
		}
	})
}

// TestRootsThatAreNew: of the roots at the end of marking some were none when it began.
func TestRootsThatAreNew(t *testing.T) {
	each(t, func(t *testing.T, e int) {
		a, m := full(t, 2)
		point(t, a, 33, 0, 5)
		m.Shade(1)
		n := engine.Finish(engine.New(of(e, 4), m), m, roots(1, 33, 0, 2, 33))
		if e == api.Yuasa {
			// Its roots aren't looked at again.
			want(t, "Finish", n, 1)
			wantColours(t, m, nil, refs{1})
			return
		}
		want(t, "Finish", n, 3)
		wantColours(t, m, nil, refs{1, 5, 33})
	})
}

func TestAStackOfOnePlace(t *testing.T) {
	each(t, func(t *testing.T, e int) {
		// All that 1 points to points to four others, in a tree.
		a := arena.New(api.MaxPages)
		var all refs
		for range 200 {
			all = append(all, born(t, a, 4))
		}
		for i, r := range all[1:] {
			point(t, a, all[i/4], i%4, r)
		}
		m := mark.New(a, 1)
		b := engine.New(of(e, 0), m)
		m.Shade(all[0])
		want(t, "Finish", engine.Finish(b, m, roots(all[0])), 200)
		wantColours(t, m, nil, all)
	})
}

func TestTheGreatestArena(t *testing.T) {
	each(t, func(t *testing.T, e int) {
		a := arena.New(api.MaxPages)
		for a.Room(0) {
			born(t, a, 0)
		}
		all := slices.Collect(a.All())
		m := mark.New(a, 1)
		b := engine.New(of(e, 2), m)
		for _, r := range all {
			m.Shade(r)
			b.Post(api.Write{Src: r, New: r, Black: true})
		}
		want(t, "Finish", engine.Finish(b, m, a.All()), len(all))
		want(t, "Count", m.Count(), len(all))
		want(t, "Drained", m.Drained(), true)
	})
}

func TestAnArenaWithNoPages(t *testing.T) {
	each(t, func(t *testing.T, e int) {
		m := mark.New(arena.New(0), 1)
		b := engine.New(of(e, 1), m)
		b.Pre(1, 5)
		b.Post(api.Write{Src: 1, Old: 5, New: 9, Black: true, Early: true})
		want(t, "Finish", engine.Finish(b, m, roots(1, 5, 9)), 0)
		want(t, "Count", m.Count(), 0)
	})
}

// TestWhatIsPutIntoABlackOneIsKept: 9 lies in 5 alone, is put into 1, which is black, and taken out of 5.
func TestWhatIsPutIntoABlackOneIsKept(t *testing.T) {
	each(t, func(t *testing.T, e int) {
		for _, log := range []int{0, 1, 4} {
			a, m := full(t, 2)
			point(t, a, 5, 0, 9)
			point(t, a, 9, 1, 33)
			b := engine.New(of(e, log), m)
			m.Shade(5)
			m.Shade(1)
			want(t, "Trace(1)", m.Trace(1), 1)
			write(t, b, m, 1, 0, 9)
			write(t, b, m, 5, 0, 0)
			engine.Finish(b, m, roots(5, 1))
			wantColours(t, m, nil, refs{1, 5, 9, 33})
		}
	})
}

// TestAFieldThatIsClearedWhileMarking: with Yuasa's the object floats; the others don't keep it.
func TestAFieldThatIsClearedWhileMarking(t *testing.T) {
	each(t, func(t *testing.T, e int) {
		a, m := full(t, 2)
		point(t, a, 1, 0, 33)
		point(t, a, 33, 0, 9)
		b := engine.New(of(e, 4), m)
		m.Shade(1)
		write(t, b, m, 1, 0, 0)
		engine.Finish(b, m, roots(1))
		if e == api.Yuasa {
			wantColours(t, m, nil, refs{1, 33, 9})
		} else {
			wantColours(t, m, nil, refs{1})
		}
	})
}

// TestWhatIsPutInAndTakenOut: a white object was put into a black one, and taken out again. Those that shade by
// a write keep it; Steele's and the counts don't.
func TestWhatIsPutInAndTakenOut(t *testing.T) {
	each(t, func(t *testing.T, e int) {
		_, m := full(t, 2)
		b := engine.New(of(e, 4), m)
		m.Shade(1)
		want(t, "Trace", m.Trace(1), 1)
		write(t, b, m, 1, 0, 33)
		write(t, b, m, 1, 0, 0)
		engine.Finish(b, m, roots(1))
		if e == api.Dijkstra || e == api.Yuasa {
			wantColours(t, m, nil, refs{1, 33})
		} else {
			wantColours(t, m, nil, refs{1})
		}
	})
}

func TestWhatFinishLeavesToTheBarrier(t *testing.T) {
	_, m := full(t, 2)
	m.Blacken(33)
	w := api.Write{Src: 33, New: 5, Black: true}
	st := engine.New(of(api.Steele, 4), m).(*steele.Barrier)
	st.Post(w)
	want(t, "Dirty", st.Dirty(), 1)
	want(t, "Finish", engine.Finish(st, m, nil), 1)
	want(t, "Dirty", st.Dirty(), 0)
	want(t, "Finish", engine.Finish(st, m, nil), 0)
	// Counts and log are as they were: none but Reset makes them new.
	v := engine.New(of(api.Vyb, 0), m).(*vyb.Barrier)
	v.Post(w)
	want(t, "Finish", engine.Finish(v, m, nil), 1)
	want(t, "Count", v.Count(5), 1)
	want(t, "Over", v.Over(), true)
}

func TestTheArenaIsNotChanged(t *testing.T) {
	each(t, func(t *testing.T, e int) {
		a, m := full(t, 2)
		for r := range a.All() {
			point(t, a, r, 1, 62-r)
			cell.SetScalar(a, r, int(-r))
		}
		b := engine.New(of(e, 1), m)
		engine.Finish(b, m, roots(1, 33))
		want(t, "how many", len(slices.Collect(a.All())), 16)
		for r := range a.All() {
			none, _ := cell.Field(a, r, 0)
			want(t, "Field 0", none, 0)
			to, _ := cell.Field(a, r, 1)
			want(t, "Field 1", to, 62-r)
			x, _ := cell.Scalar(a, r)
			want(t, "Scalar", x, int(-r))
		}
	})
}

func TestBarriersApart(t *testing.T) {
	each(t, func(t *testing.T, e int) {
		a, m := full(t, 2)
		point(t, a, 5, 0, 9)
		other := mark.New(a, 4)
		x, y := engine.New(of(e, 4), m), engine.New(of(e, 4), other)
		m.Shade(5)
		other.Shade(33)
		want(t, "x's", engine.Finish(x, m, roots(5)), 2)
		wantColours(t, m, nil, refs{5, 9})
		wantColours(t, other, refs{33}, nil)
		want(t, "y's", engine.Finish(y, other, roots(33)), 1)
		wantColours(t, m, nil, refs{5, 9})
		wantColours(t, other, nil, refs{33})
	})
}

// leads is all that roots lead to.
func leads(a *arena.Arena, roots refs) refs {
	l := slices.Compact(slices.Sorted(slices.Values(roots)))
	for i := 0; i < len(l); i++ {
		for to := range cell.Points(a, l[i]) {
			if !slices.Contains(l, to) {
				l = append(l, to)
			}
		}
	}
	return l
}

// A deed is a write that is under way: it is done, or Pre alone was.
type deed struct {
	src, to api.Ref
	field   int
	done    bool
	told    api.Write
}

// A world is a heap with several writers, each of whom has in hand all that roots lead to at first.
type world struct {
	rnd   *rand.Rand
	m     *mark.Marker
	b     engine.Barrier
	roots refs
	hand  refs
	deeds []*deed
}

// newWorld has objects of all classes that point to one another, some from roots on, all white.
func newWorld(t *testing.T, rnd *rand.Rand) *world {
	t.Helper()
	a := arena.New(1 + rnd.Intn(6))
	for a.Free() > 0 {
		born(t, a, rnd.Intn(api.MaxFields+1))
	}
	all := slices.Collect(a.All())
	pick := func() api.Ref { return all[rnd.Intn(len(all))] }
	for range 2 * len(all) {
		if r := pick(); cell.Fields(a, r) > 0 {
			point(t, a, r, rnd.Intn(cell.Fields(a, r)), pick())
		}
	}
	x := &world{rnd: rnd, m: mark.New(a, 1+rnd.Intn(4))}
	for range 1 + rnd.Intn(4) {
		x.roots = append(x.roots, pick())
	}
	x.hand = leads(a, x.roots)
	return x
}

// begin lets all be white, and shades all roots.
func (x *world) begin(e int) {
	x.m.Reset()
	x.hand = leads(x.m.Arena(), x.roots)
	x.b = engine.New(of(e, x.rnd.Intn(6)), x.m)
	for _, r := range x.roots {
		x.m.Shade(r)
	}
}

// move does one thing of a writer, or of tracing.
func (x *world) move(t *testing.T) {
	t.Helper()
	switch x.rnd.Intn(4) {
	case 0:
		x.m.Trace(x.rnd.Intn(4))
	case 1:
		x.start()
	default:
		if len(x.deeds) > 0 {
			x.goOn(t, x.rnd.Intn(len(x.deeds)))
		}
	}
}

// start begins a write: Pre is done.
func (x *world) start() {
	d := &deed{src: x.hand[x.rnd.Intn(len(x.hand))]}
	n := cell.Fields(x.m.Arena(), d.src)
	if n == 0 {
		return
	}
	d.field = x.rnd.Intn(n)
	if x.rnd.Intn(3) > 0 {
		d.to = x.hand[x.rnd.Intn(len(x.hand))]
	}
	old, _ := cell.Field(x.m.Arena(), d.src, d.field)
	x.b.Pre(d.src, old)
	x.deeds = append(x.deeds, d)
}

// goOn does the next part of a write: the write itself, or Post.
func (x *world) goOn(t *testing.T, i int) {
	t.Helper()
	d := x.deeds[i]
	if d.done {
		x.b.Post(d.told)
		x.deeds = slices.Delete(x.deeds, i, i+1)
		return
	}
	old, _ := cell.Field(x.m.Arena(), d.src, d.field)
	point(t, x.m.Arena(), d.src, d.field, d.to)
	d.done = true
	d.told = api.Write{Src: d.src, Old: old, New: d.to, Black: x.m.Scanned(d.src)}
}

// end does what is left of the writes, and ends marking.
func (x *world) end(t *testing.T) int {
	t.Helper()
	for len(x.deeds) > 0 {
		x.goOn(t, x.rnd.Intn(len(x.deeds)))
	}
	return engine.Finish(x.b, x.m, slices.Values(x.roots))
}

// TestAllThatRootsLeadToIsMarked: at random, writes of several writers and tracing come in whatever order. All
// that roots lead to at the end is marked, and nothing that they didn't lead to at first.
func TestAllThatRootsLeadToIsMarked(t *testing.T) {
	each(t, func(t *testing.T, e int) {
		rnd := rand.New(rand.NewSource(int64(7 + e)))
		for range 150 {
			x := newWorld(t, rnd)
			for range 3 {
				x.begin(e)
				for range rnd.Intn(120) {
					x.move(t)
				}
				x.end(t)
				want(t, "Drained", x.m.Drained(), true)
				for _, r := range leads(x.m.Arena(), x.roots) {
					want(t, "Marked", x.m.Marked(r), true)
				}
				for r := range x.m.All() {
					want(t, "roots led to it", slices.Contains(x.hand, r), true)
				}
			}
		}
	})
}

// like is the barrier of an engine, made by its own layer.
func like(e, log int, m *mark.Marker) engine.Barrier {
	switch e {
	case api.Steele:
		return steele.New(m)
	case api.Dijkstra:
		return dijkstra.New(m)
	case api.Yuasa:
		return yuasa.New(m)
	}
	return vyb.New(m, log)
}

// finish is Finish, told otherwise: one by one, what is grey is scanned till none is.
func finish(b engine.Barrier, m *mark.Marker, roots refs, e int) int {
	if e != api.Yuasa {
		for _, r := range roots {
			m.Shade(r)
		}
	}
	b.Remark()
	n := 0
	for m.Trace(1) == 1 {
		n++
	}
	return n
}

func TestAgainstItsLayer(t *testing.T) {
	each(t, func(t *testing.T, e int) {
		rnd := rand.New(rand.NewSource(int64(17 + e)))
		for range 100 {
			a, _ := full(t, 2)
			all := slices.Concat(slices.Collect(a.All()), slices.Collect(a.All()), noRefs)
			pick := func() api.Ref { return all[rnd.Intn(len(all))] }
			for range 20 {
				point(t, a, all[rnd.Intn(16)], rnd.Intn(2), all[rnd.Intn(16)])
			}
			stack, log := 1+rnd.Intn(6), rnd.Intn(6)
			m, other := mark.New(a, stack), mark.New(a, stack)
			b, o := engine.New(of(e, log), m), like(e, log, other)
			for range 60 {
				switch rnd.Intn(12) {
				default:
					w := api.Write{Src: pick(), Old: pick(), New: pick(), Black: rnd.Intn(3) > 0, Early: rnd.Intn(2) > 0}
					b.Post(w)
					o.Post(w)
				case 0, 1:
					src, old := pick(), pick()
					b.Pre(src, old)
					o.Pre(src, old)
				case 2:
					b.Remark()
					o.Remark()
				case 3:
					b.Reset()
					o.Reset()
				case 4:
					l := refs{pick(), pick(), pick()}
					want(t, "Finish", engine.Finish(b, m, roots(l...)), finish(o, other, l, e))
				case 5:
					m.Reset()
					other.Reset()
				}
				n := rnd.Intn(2)
				want(t, "Trace", m.Trace(n), other.Trace(n))
				want(t, "Rescans", b.Rescans(), o.Rescans())
				for _, r := range all {
					want(t, "Marked", m.Marked(r), other.Marked(r))
					want(t, "Scanned", m.Scanned(r), other.Scanned(r))
				}
			}
		}
	})
}
