package thread_test

import (
	"math"
	"math/rand"
	"slices"
	"testing"

	"hawthorn/api"
	"hawthorn/thread"
)

var (
	// How many registers, or places: those that a configuration may have, past these, and below 0.
	counts = []int{0, 1, 2, 3, 8, 9, 100, -1, -2, math.MinInt}

	// Numbers that no register has, however many there are; far ones, as a part of them may look like one.
	farBelow = []int{-1, -2, -8, -64, -1 << 32, -1<<32 + 1, math.MinInt, math.MinInt + 1}
	farAbove = []int{1 << 32, 1<<32 + 1, 1 << 60, math.MaxInt - 1, math.MaxInt}

	// A register or a place may have any Ref.
	anyRefs = []api.Ref{1, 9, 2048, -1, -32, 1 << 32, math.MaxInt, math.MinInt, 0, 1}
)

func want[T comparable](t *testing.T, what string, got, want T) {
	t.Helper()
	if got != want {
		t.Fatalf("%s: %v, want %v", what, got, want)
	}
}

func wantReg(t *testing.T, x *thread.Thread, i int, r api.Ref) {
	t.Helper()
	got, e := x.Reg(i)
	if got != r || e != api.OK {
		t.Fatalf("Reg(%d): %v, %v, want %v", i, got, e, r)
	}
}

// wantRegs: there are just these registers, and they have these Refs.
func wantRegs(t *testing.T, x *thread.Thread, refs ...api.Ref) {
	t.Helper()
	for i, r := range refs {
		wantReg(t, x, i, r)
	}
	for _, i := range slices.Concat(farBelow, farAbove, []int{len(refs), len(refs) + 1, -len(refs) - 1}) {
		if r, e := x.Reg(i); r != 0 || e != api.ErrReg {
			t.Fatalf("%d registers: Reg(%d): %v, %v", len(refs), i, r, e)
		}
	}
}

func wantPop(t *testing.T, x *thread.Thread, r api.Ref) {
	t.Helper()
	got, e := x.Pop()
	if got != r || e != api.OK {
		t.Fatalf("Pop: %v, %v, want %v", got, e, r)
	}
}

// wantEmpty: nothing stands on the stack, and nothing is popped.
func wantEmpty(t *testing.T, x *thread.Thread) {
	t.Helper()
	for range 2 {
		want(t, "Depth", x.Depth(), 0)
		r, e := x.Pop()
		want(t, "Pop", r, 0)
		want(t, "Pop", e, api.ErrStack)
	}
	want(t, "Depth", x.Depth(), 0)
}

func wantRoots(t *testing.T, x *thread.Thread, refs ...api.Ref) {
	t.Helper()
	if l := slices.Collect(x.Roots()); !slices.Equal(l, refs) {
		t.Fatalf("Roots: %v, want %v", l, refs)
	}
}

// made is a thread with these registers, and with these on its stack, from its bottom on, and more places.
func made(t *testing.T, regs, stack []api.Ref, more int) *thread.Thread {
	t.Helper()
	x := thread.New(len(regs), len(stack)+more)
	for i, r := range regs {
		set(t, x, i, r)
	}
	push(t, x, stack...)
	return x
}

func set(t *testing.T, x *thread.Thread, i int, r api.Ref) {
	t.Helper()
	want(t, "SetReg", x.SetReg(i, r), api.OK)
}

func push(t *testing.T, x *thread.Thread, refs ...api.Ref) {
	t.Helper()
	for _, r := range refs {
		want(t, "Push", x.Push(r), api.OK)
	}
}

func refs(l ...api.Ref) []api.Ref { return l }

func TestANewThread(t *testing.T) {
	for _, regs := range counts {
		for _, stack := range counts {
			x := thread.New(regs, stack)
			wantRegs(t, x, make([]api.Ref, max(regs, 0))...)
			want(t, "Full", x.Full(), stack <= 0)
			wantEmpty(t, x)
			wantRoots(t, x)
		}
	}
}

func TestEachRegisterIsSetAlone(t *testing.T) {
	for _, regs := range []int{1, 2, 3, 8, 100} {
		for i := range regs {
			x, l := thread.New(regs, 1), make([]api.Ref, regs)
			for _, r := range anyRefs {
				set(t, x, i, r)
				l[i] = r
				wantRegs(t, x, l...)
				wantEmpty(t, x)
			}
		}
	}
}

func TestRegistersAreSetInAnyOrder(t *testing.T) {
	for _, order := range [][]int{{0, 1, 2, 3}, {3, 2, 1, 0}, {2, 0, 3, 1}, {1, 3, 0, 2}} {
		x, l := thread.New(4, 0), make([]api.Ref, 4)
		for _, i := range order {
			l[i] = api.Ref(10 + i)
			set(t, x, i, l[i])
			wantRegs(t, x, l...)
		}
		wantRoots(t, x, 10, 11, 12, 13)
		for _, i := range order {
			l[i] = 0
			set(t, x, i, 0)
			wantRegs(t, x, l...)
		}
		wantRoots(t, x)
	}
}

func TestARegisterIsSetAgain(t *testing.T) {
	x := made(t, refs(5, 6, 7), nil, 0)
	for range 2 {
		set(t, x, 1, 6) // the same
		wantRegs(t, x, 5, 6, 7)
	}
	set(t, x, 1, 5) // as another one
	wantRegs(t, x, 5, 5, 7)
	for range 2 {
		set(t, x, 0, 0)
		wantRegs(t, x, 0, 5, 7)
	}
	set(t, x, 0, 8)
	wantRegs(t, x, 8, 5, 7)
	wantRoots(t, x, 8, 5, 7)
}

func TestThereIsNoSuchRegister(t *testing.T) {
	for _, regs := range counts {
		x, l := thread.New(regs, 2), make([]api.Ref, max(regs, 0))
		for i := range l {
			l[i] = api.Ref(i % 3)
			set(t, x, i, l[i])
		}
		push(t, x, 4)
		for _, i := range slices.Concat(farBelow, farAbove, []int{len(l), len(l) + 1, len(l) + 64, -len(l) - 1}) {
			for _, r := range anyRefs {
				want(t, "SetReg", x.SetReg(i, r), api.ErrReg)
			}
			r, e := x.Reg(i)
			want(t, "Reg", r, 0)
			want(t, "Reg", e, api.ErrReg)
		}
		wantRegs(t, x, l...)
		wantPop(t, x, 4)
		wantEmpty(t, x)
	}
}

func TestWhatIsPushedLastIsPoppedFirst(t *testing.T) {
	for _, places := range []int{1, 2, 3, 8, 100} {
		x := thread.New(1, places)
		for range 2 {
			for i := range places {
				want(t, "Full", x.Full(), false)
				push(t, x, anyRefs[i%len(anyRefs)])
				want(t, "Depth", x.Depth(), i+1)
			}
			want(t, "Full", x.Full(), true)
			for i := places - 1; i >= 0; i-- {
				wantPop(t, x, anyRefs[i%len(anyRefs)])
				want(t, "Full", x.Full(), false)
				want(t, "Depth", x.Depth(), i)
			}
			wantEmpty(t, x)
		}
	}
}

func TestPushesAndPopsBetweenEachOther(t *testing.T) {
	x := thread.New(0, 3)
	push(t, x, 1, 2)
	wantPop(t, x, 2)
	push(t, x, 3, 4)
	want(t, "Push", x.Push(5), api.ErrStack)
	wantPop(t, x, 4)
	wantPop(t, x, 3)
	push(t, x, 6)
	wantRoots(t, x, 1, 6)
	wantPop(t, x, 6)
	wantPop(t, x, 1)
	wantEmpty(t, x)
}

func TestAFullStackTakesNothing(t *testing.T) {
	for _, places := range counts {
		x := thread.New(2, places)
		set(t, x, 1, 7)
		for i := range max(places, 0) {
			push(t, x, api.Ref(i+1))
		}
		for _, r := range anyRefs {
			want(t, "Push", x.Push(r), api.ErrStack)
			want(t, "Full", x.Full(), true)
			want(t, "Depth", x.Depth(), max(places, 0))
		}
		wantRegs(t, x, 0, 7)
		for i := max(places, 0); i > 0; i-- {
			wantPop(t, x, api.Ref(i))
		}
		wantEmpty(t, x)
	}
}

func TestNothingIsPoppedFromAnEmptyStack(t *testing.T) {
	x := made(t, refs(5, 0), nil, 1)
	wantEmpty(t, x)
	wantRegs(t, x, 5, 0)
	push(t, x, 6) // the failed pops made no room, and took none
	want(t, "Push", x.Push(7), api.ErrStack)
	wantPop(t, x, 6)
	wantEmpty(t, x)
}

func TestZerosTakePlaces(t *testing.T) {
	x := thread.New(0, 3)
	push(t, x, 0, 0, 0)
	want(t, "Depth", x.Depth(), 3)
	want(t, "Full", x.Full(), true)
	want(t, "Push", x.Push(0), api.ErrStack)
	wantRoots(t, x)
	for range 3 {
		wantPop(t, x, 0)
	}
	wantEmpty(t, x)
}

func TestMoreRegistersAndPlacesThanThereIsMemoryFor(t *testing.T) {
	for _, n := range []int{1 << 31, 1 << 62, math.MaxInt} {
		x := thread.New(n, n)
		for _, i := range []int{n - 1, 0, n / 2, n - 2, 1 << 20} {
			wantReg(t, x, i, 0)
			set(t, x, i, api.Ref(i%1000+1))
			wantReg(t, x, i, api.Ref(i%1000+1))
		}
		for _, i := range slices.Concat(farBelow, []int{-n, math.MaxInt}) {
			_, e := x.Reg(i)
			want(t, "Reg", e, api.ErrReg)
			want(t, "SetReg", x.SetReg(i, 5), api.ErrReg)
		}
		push(t, x, 3, 0, 4)
		want(t, "Full", x.Full(), false)
		want(t, "Depth", x.Depth(), 3)
		var l []api.Ref
		for _, i := range []int{0, 1 << 20, n / 2, n - 2, n - 1} {
			l = append(l, api.Ref(i%1000+1))
		}
		wantRoots(t, x, append(l, 3, 4)...)
		set(t, x, n-1, 0)
		wantReg(t, x, n-1, 0)
	}
}

func TestRootsTellsRegistersAndThenTheStack(t *testing.T) {
	for _, x := range []struct{ regs, stack, roots []api.Ref }{
		{},
		{refs(5), nil, refs(5)},
		{nil, refs(5), refs(5)},
		{refs(9, 3, 7), refs(8, 2, 6), refs(9, 3, 7, 8, 2, 6)},
		{refs(0, 3, 0), refs(0, 2, 0), refs(3, 2)},
		{refs(3, 0, 4), refs(2, 0, 1), refs(3, 4, 2, 1)},
		{refs(0, 0), refs(0, 0), nil},
		{refs(0, 0), refs(7), refs(7)},
		{refs(7), refs(0, 0), refs(7)},
		{refs(4, 4, 4), refs(4, 0, 4), refs(4, 4, 4, 4, 4)}, // each one that has it
		{refs(-1, math.MinInt), refs(math.MaxInt, -32), refs(-1, math.MinInt, math.MaxInt, -32)},
		{refs(1, 2, 3, 4, 5, 6, 7, 8), refs(9, 10, 11, 12, 13, 14, 15, 16), refs(1, 2, 3, 4, 5, 6, 7, 8, 9, 10, 11, 12, 13, 14, 15, 16)},
	} {
		for more := range 3 {
			th := made(t, x.regs, x.stack, more)
			wantRoots(t, th, x.roots...)
			wantRoots(t, th, x.roots...)
			wantRegs(t, th, x.regs...)
			want(t, "Depth", th.Depth(), len(x.stack))
			want(t, "Full", th.Full(), more == 0)
		}
	}
}

func TestWhatWasPoppedOrClearedIsNoRoot(t *testing.T) {
	x := made(t, refs(5, 6), refs(7, 8), 0)
	wantPop(t, x, 8)
	wantRoots(t, x, 5, 6, 7)
	set(t, x, 0, 0)
	wantRoots(t, x, 6, 7)
	wantPop(t, x, 7)
	wantRoots(t, x, 6)
	want(t, "SetReg", x.SetReg(2, 9), api.ErrReg)
	wantRoots(t, x, 6)
	set(t, x, 1, 0)
	wantRoots(t, x)
}

func TestRootsMayBeLeft(t *testing.T) {
	x := made(t, refs(5, 0, 6), refs(7, 0, 8), 0)
	all := refs(5, 6, 7, 8)
	for stop := range all {
		var l []api.Ref
		for r := range x.Roots() {
			l = append(l, r)
			if len(l) == stop+1 {
				break
			}
		}
		if !slices.Equal(l, all[:stop+1]) {
			t.Fatalf("Roots: %v, want %v", l, all[:stop+1])
		}
		wantRoots(t, x, all...)
	}
}

func TestRootsIsOfTheTimeItIsGoneThrough(t *testing.T) {
	x := made(t, refs(5, 0), nil, 2)
	roots := x.Roots()
	for _, step := range []struct {
		do   func()
		told []api.Ref
	}{
		{func() {}, refs(5)},
		{func() { set(t, x, 1, 6) }, refs(5, 6)},
		{func() { push(t, x, 9) }, refs(5, 6, 9)},
		{func() { set(t, x, 0, 0) }, refs(6, 9)},
		{func() { wantPop(t, x, 9) }, refs(6)},
	} {
		step.do()
		if l := slices.Collect(roots); !slices.Equal(l, step.told) {
			t.Fatalf("Roots: %v, want %v", l, step.told)
		}
	}
}

func TestRegistersAreSetWhileRootsAreTold(t *testing.T) {
	x := made(t, refs(1, 0, 3, 4, 0, 6), nil, 0)
	var l []api.Ref
	for r := range x.Roots() {
		l = append(l, r)
		if r == 3 {
			set(t, x, 1, 20) // behind it
			set(t, x, 2, 30) // it
			set(t, x, 3, 0)  // those ahead
			set(t, x, 4, 50)
			set(t, x, 5, 60)
		}
	}
	if !slices.Equal(l, refs(1, 3, 50, 60)) {
		t.Fatalf("Roots: %v", l)
	}
	wantRegs(t, x, 1, 20, 30, 0, 50, 60)
}

func TestARegisterIsClearedAsItIsTold(t *testing.T) {
	x := made(t, refs(1, 2, 0, 4), refs(5), 0)
	i, regs := 0, refs(0, 1, 3)
	for range x.Roots() {
		if i < len(regs) {
			set(t, x, int(regs[i]), 0)
		}
		i++
	}
	want(t, "told", i, 4)
	wantRoots(t, x, 5)
}

func TestTheStackChangesWhileRootsAreTold(t *testing.T) {
	x := made(t, refs(1), refs(2, 3, 4), 0)
	var l []api.Ref
	for r := range x.Roots() {
		l = append(l, r)
		switch r {
		case 1:
			wantPop(t, x, 4)
		case 3:
			push(t, x, 7)
		case 7:
			wantPop(t, x, 7)
			wantPop(t, x, 3)
		}
	}
	if !slices.Equal(l, refs(1, 2, 3, 7)) {
		t.Fatalf("Roots: %v", l)
	}
	wantRoots(t, x, 1, 2)
}

func TestRootsWithinRoots(t *testing.T) {
	x := made(t, refs(1, 2), refs(3), 0)
	var l []api.Ref
	roots := x.Roots()
	for r := range roots {
		l = append(l, r)
		for r := range roots {
			l = append(l, 10*r)
		}
	}
	if !slices.Equal(l, refs(1, 10, 20, 30, 2, 10, 20, 30, 3, 10, 20, 30)) {
		t.Fatalf("Roots: %v", l)
	}
}

func TestThreadsAreApart(t *testing.T) {
	x, y := thread.New(2, 2), thread.New(2, 2)
	set(t, x, 0, 5)
	push(t, x, 6, 7)
	wantRegs(t, y, 0, 0)
	wantEmpty(t, y)
	set(t, y, 0, 8)
	push(t, y, 9)
	wantRoots(t, x, 5, 6, 7)
	wantRoots(t, y, 8, 9)
	want(t, "Full", x.Full(), true)
	want(t, "Full", y.Full(), false)
}

// model does what a thread does, by two lists.
type model struct {
	regs, stack []api.Ref
	room        int
}

func (m *model) reg(i int) (api.Ref, api.Errno) {
	if i < 0 || i >= len(m.regs) {
		return 0, api.ErrReg
	}
	return m.regs[i], api.OK
}

func (m *model) setReg(i int, r api.Ref) api.Errno {
	if i < 0 || i >= len(m.regs) {
		return api.ErrReg
	}
	m.regs[i] = r
	return api.OK
}

func (m *model) push(r api.Ref) api.Errno {
	if len(m.stack) == m.room {
		return api.ErrStack
	}
	m.stack = append(slices.Clone(m.stack), r)
	return api.OK
}

func (m *model) pop() (api.Ref, api.Errno) {
	n := len(m.stack)
	if n == 0 {
		return 0, api.ErrStack
	}
	r := m.stack[n-1]
	m.stack = slices.Clone(m.stack[:n-1])
	return r, api.OK
}

func (m *model) roots() []api.Ref {
	return slices.DeleteFunc(slices.Concat(m.regs, m.stack), func(r api.Ref) bool { return r == 0 })
}

func TestAgainstAModel(t *testing.T) {
	rnd := rand.New(rand.NewSource(1))
	for _, regs := range []int{0, 1, 2, 8, 40} {
		for _, places := range []int{0, 1, 2, 8, 40} {
			x, m := thread.New(regs, places), &model{regs: make([]api.Ref, regs), room: places}
			for range 2000 {
				step(t, rnd, x, m)
				want(t, "Depth", x.Depth(), len(m.stack))
				want(t, "Full", x.Full(), len(m.stack) == m.room)
				wantRoots(t, x, m.roots()...)
			}
		}
	}
}

// step does one thing to both.
func step(t *testing.T, rnd *rand.Rand, x *thread.Thread, m *model) {
	t.Helper()
	i, r := rnd.Intn(len(m.regs)+4)-2, api.Ref(rnd.Intn(5))
	switch rnd.Intn(5) {
	case 0, 1:
		want(t, "SetReg", x.SetReg(i, r), m.setReg(i, r))
	case 2:
		want(t, "Push", x.Push(r), m.push(r))
	case 3:
		got, e := x.Pop()
		r, err := m.pop()
		want(t, "Pop", got, r)
		want(t, "Pop", e, err)
	default:
		got, e := x.Reg(i)
		r, err := m.reg(i)
		want(t, "Reg", got, r)
		want(t, "Reg", e, err)
	}
}
