package root_test

import (
	"math"
	"math/rand"
	"slices"
	"testing"

	"hawthorn/api"
	"hawthorn/root"
	"hawthorn/thread"
)

// What the document says of a configuration's bounds, in numbers.
const maxThreads, maxRegs, maxStack, maxGlobals = 4, 8, 8, 4

var (
	// Numbers that no thread and no global has; far ones, as a part of them may look like one.
	farBelow = []int{-1, -2, -4, -64, -1 << 32, -1<<32 + 1, math.MinInt, math.MinInt + 1}
	farAbove = []int{64, 255, 256, 1 << 16, 1 << 32, 1<<32 + 1, 1 << 62, math.MaxInt - 1, math.MaxInt}

	// A global may have any Ref.
	anyRefs = []api.Ref{1, 9, 2048, -1, -32, 1 << 32, math.MaxInt, math.MinInt, 0, 1}
)

func want[T comparable](t *testing.T, what string, got, want T) {
	t.Helper()
	if got != want {
		t.Fatalf("%s: %v, want %v", what, got, want)
	}
}

func wantList[T comparable](t *testing.T, what string, got, want []T) {
	t.Helper()
	if !slices.Equal(got, want) {
		t.Fatalf("%s: %v, want %v", what, got, want)
	}
}

func refs(l ...api.Ref) []api.Ref { return l }

func upTo(n int) []int {
	var l []int
	for i := range n {
		l = append(l, i)
	}
	return l
}

// noneOf is numbers that none of so many things, numbered from 0 on, has.
func noneOf(count int) []int {
	return slices.Concat(farBelow, farAbove, []int{count, count + 1, count + 4, -count - 1})
}

// table is one of so many threads and globals, each thread of 3 registers and 2 places, some of them alive.
func table(t *testing.T, threads, globals int, alive ...int) *root.Table {
	t.Helper()
	x := root.New(api.Config{Threads: threads, Regs: 3, Stack: 2, Globals: globals})
	spawn(t, x, alive...)
	return x
}

func spawn(t *testing.T, x *root.Table, numbers ...int) {
	t.Helper()
	for _, i := range numbers {
		want(t, "Spawn", x.Spawn(i), api.OK)
	}
}

func exit(t *testing.T, x *root.Table, numbers ...int) {
	t.Helper()
	for _, i := range numbers {
		want(t, "Exit", x.Exit(i), api.OK)
	}
}

func setGlobals(t *testing.T, x *root.Table, refs ...api.Ref) {
	t.Helper()
	for i, r := range refs {
		want(t, "SetGlobal", x.SetGlobal(i, r), api.OK)
	}
}

func setReg(t *testing.T, x *root.Table, i, reg int, r api.Ref) {
	t.Helper()
	want(t, "SetReg", x.Of(i).SetReg(reg, r), api.OK)
}

func push(t *testing.T, x *root.Table, i int, refs ...api.Ref) {
	t.Helper()
	for _, r := range refs {
		want(t, "Push", x.Of(i).Push(r), api.OK)
	}
}

// wantGlobals: there are just these.
func wantGlobals(t *testing.T, x *root.Table, refs ...api.Ref) {
	t.Helper()
	var set []api.Ref
	for i, r := range refs {
		got, e := x.Global(i)
		want(t, "Global", got, r)
		want(t, "Global", e, api.OK)
		if r != 0 {
			set = append(set, r)
		}
	}
	for _, i := range noneOf(len(refs)) {
		got, e := x.Global(i)
		want(t, "Global", got, 0)
		want(t, "Global", e, api.ErrGlobal)
	}
	wantList(t, "Globals", slices.Collect(x.Globals()), set)
}

// wantAlive: just these threads are, by whichever call it is asked.
func wantAlive(t *testing.T, x *root.Table, alive ...int) {
	t.Helper()
	want(t, "Count", x.Count(), len(alive))
	var told []int
	for i, th := range x.Threads() {
		told = append(told, i)
		want(t, "Threads", th, x.Of(i))
	}
	wantList(t, "Threads", told, alive)
	for _, i := range slices.Concat(upTo(maxThreads), noneOf(maxThreads)) {
		want(t, "Live", x.Live(i), slices.Contains(alive, i))
		want(t, "Of isn't nil", x.Of(i) != nil, slices.Contains(alive, i))
	}
}

func wantAll(t *testing.T, x *root.Table, refs ...api.Ref) {
	t.Helper()
	wantList(t, "All", slices.Collect(x.All()), refs)
}

// wantNew: a thread has so many registers, all 0, and an empty stack of so many places.
func wantNew(t *testing.T, th *thread.Thread, regs, stack int) {
	t.Helper()
	for i := range regs {
		r, e := th.Reg(i)
		want(t, "Reg", r, 0)
		want(t, "Reg", e, api.OK)
	}
	_, e := th.Reg(regs)
	want(t, "Reg past the last one", e, api.ErrReg)
	want(t, "SetReg past the last one", th.SetReg(regs, 1), api.ErrReg)
	want(t, "Depth", th.Depth(), 0)
	wantList(t, "Roots", slices.Collect(th.Roots()), nil)
	for range stack {
		want(t, "Push", th.Push(1), api.OK)
	}
	want(t, "Push to a full stack", th.Push(1), api.ErrStack)
	for range stack {
		_, e := th.Pop()
		want(t, "Pop", e, api.OK)
	}
}

func TestNoThreadOfANewTableLives(t *testing.T) {
	for threads := 1; threads <= maxThreads; threads++ {
		for globals := range maxGlobals + 1 {
			x := table(t, threads, globals)
			wantAlive(t, x)
			wantGlobals(t, x, make([]api.Ref, globals)...)
			wantAll(t, x)
			for _, i := range slices.Concat(upTo(threads), noneOf(threads)) {
				want(t, "Exit", x.Exit(i), api.ErrThread)
			}
		}
	}
}

func TestEachNumberHasAThread(t *testing.T) {
	for threads := 1; threads <= maxThreads; threads++ {
		for i := range threads {
			x := table(t, threads, 1)
			spawn(t, x, i)
			wantAlive(t, x, i)
			exit(t, x, i)
			wantAlive(t, x)
		}
		x := table(t, threads, 1, upTo(threads)...)
		wantAlive(t, x, upTo(threads)...)
		for i := range threads {
			exit(t, x, i)
			wantAlive(t, x, upTo(threads)[i+1:]...)
		}
	}
}

func TestThreadsAreToldByNumberInWhateverOrderTheyCome(t *testing.T) {
	for _, order := range [][]int{{0, 1, 2, 3}, {3, 2, 1, 0}, {2, 0, 3, 1}, {1, 3, 0, 2}, {3, 1}, {2, 0}} {
		x := table(t, 4, 0)
		for n, i := range order {
			spawn(t, x, i)
			wantAlive(t, x, slices.Sorted(slices.Values(order[:n+1]))...)
		}
		for n, i := range order {
			exit(t, x, i)
			wantAlive(t, x, slices.Sorted(slices.Values(order[n+1:]))...)
		}
	}
}

func TestNoThreadIsSpawnedTwice(t *testing.T) {
	x := table(t, 2, 1, 0)
	was := x.Of(0)
	setReg(t, x, 0, 2, 5)
	push(t, x, 0, 6)
	for range 2 {
		want(t, "Spawn", x.Spawn(0), api.ErrThread)
		wantAlive(t, x, 0)
		want(t, "Of", x.Of(0), was)
		wantAll(t, x, 5, 6)
	}
}

func TestNoThreadExitsTwice(t *testing.T) {
	x := table(t, 3, 0, 0, 2)
	exit(t, x, 2)
	for range 2 {
		for _, i := range []int{1, 2} {
			want(t, "Exit", x.Exit(i), api.ErrThread)
			wantAlive(t, x, 0)
		}
	}
}

func TestThereIsNoSuchThread(t *testing.T) {
	for threads := 1; threads <= maxThreads; threads++ {
		for _, alive := range [][]int{nil, {0}, upTo(threads)} {
			x := table(t, threads, 1, alive...)
			for _, i := range noneOf(threads) {
				want(t, "Spawn", x.Spawn(i), api.ErrThread)
				want(t, "Exit", x.Exit(i), api.ErrThread)
				want(t, "Live", x.Live(i), false)
				want(t, "Of", x.Of(i), nil)
			}
			wantAlive(t, x, alive...)
			wantAll(t, x)
		}
	}
}

func TestASpawnedThreadIsNew(t *testing.T) {
	for _, regs := range []int{1, 2, 5, maxRegs} {
		for _, stack := range []int{0, 1, 3, maxStack} {
			x := root.New(api.Config{Threads: 4, Regs: regs, Stack: stack})
			for _, i := range []int{0, 3} {
				for range 2 {
					spawn(t, x, i)
					wantNew(t, x.Of(i), regs, stack)
					setReg(t, x, i, regs-1, 7)
					for range stack {
						push(t, x, i, 8)
					}
					exit(t, x, i)
				}
			}
		}
	}
}

func TestOtherNumbersOfTheConfigurationPlayNoPart(t *testing.T) {
	for _, n := range []int{math.MinInt, -1, 0, 1, 9, math.MaxInt} {
		x := root.New(api.Config{Engine: n, Black: n > 0, Pages: n, Threads: 2, Regs: 3, Stack: 1, Globals: 2, Fields: n, Mark: n, Log: n, Budget: n})
		spawn(t, x, 0, 1)
		want(t, "Spawn", x.Spawn(2), api.ErrThread)
		wantAlive(t, x, 0, 1)
		wantNew(t, x.Of(1), 3, 1)
		wantGlobals(t, x, 0, 0)
	}
}

func TestNoCallPanicsWhateverTheConfiguration(t *testing.T) {
	for _, n := range []int{math.MinInt, -1, 0, 5, 9, 100, math.MaxInt} {
		x := root.New(api.Config{Threads: n, Regs: n, Stack: n, Globals: n})
		for _, i := range slices.Concat(upTo(9), farBelow, farAbove) {
			x.Spawn(i)
			x.SetGlobal(i, 5)
			x.Global(i)
			if th := x.Of(i); th != nil {
				th.SetReg(0, 6)
				th.Push(7)
			}
		}
		for range x.All() {
		}
		for i := range x.Threads() {
			want(t, "Exit", x.Exit(i), api.OK)
		}
		wantAlive(t, x)
	}
}

func TestOfIsTheThreadItself(t *testing.T) {
	x := table(t, 3, 0, 0, 2)
	want(t, "Of", x.Of(2), x.Of(2))
	want(t, "Of another", x.Of(2) == x.Of(0), false)
	x.Of(2).SetReg(1, 8)
	r, _ := x.Of(2).Reg(1)
	want(t, "Reg", r, 8)
	r, _ = x.Of(0).Reg(1)
	want(t, "Reg of another", r, 0)
	wantAll(t, x, 8)
	for _, th := range x.Threads() {
		th.Push(9)
	}
	wantAll(t, x, 9, 8, 9)
}

func TestAThreadThatComesBackIsAnother(t *testing.T) {
	x := table(t, 2, 0, 0, 1)
	was := x.Of(1)
	setReg(t, x, 1, 0, 5)
	push(t, x, 1, 6, 7)
	exit(t, x, 1)
	wantAll(t, x)
	spawn(t, x, 1)
	wantNew(t, x.Of(1), 3, 2)
	wantAll(t, x)
	was.SetReg(1, 4) // nobody's
	wantAll(t, x)
	setReg(t, x, 1, 0, 3)
	wantAll(t, x, 3)
	wantList(t, "Roots", slices.Collect(was.Roots()), refs(5, 4, 6, 7))
}

func TestExitLeavesTheOthersAsTheyWere(t *testing.T) {
	x := table(t, 3, 1, 0, 1, 2)
	setGlobals(t, x, 1)
	for i := range 3 {
		setReg(t, x, i, i, api.Ref(10+i))
	}
	zero, two := x.Of(0), x.Of(2)
	exit(t, x, 1)
	want(t, "Of", x.Of(0), zero)
	want(t, "Of", x.Of(2), two)
	wantAll(t, x, 1, 10, 12)
	spawn(t, x, 1)
	wantAll(t, x, 1, 10, 12)
}

func TestEachGlobalIsSetAlone(t *testing.T) {
	for globals := 1; globals <= maxGlobals; globals++ {
		for i := range globals {
			x, l := table(t, 1, globals, 0), make([]api.Ref, globals)
			for _, r := range anyRefs {
				want(t, "SetGlobal", x.SetGlobal(i, r), api.OK)
				l[i] = r
				wantGlobals(t, x, l...)
			}
			wantNew(t, x.Of(0), 3, 2)
		}
	}
}

func TestThereIsNoSuchGlobal(t *testing.T) {
	for globals := range maxGlobals + 1 {
		x, l := table(t, 4, globals, 0, 1, 2, 3), make([]api.Ref, globals)
		for i := range l {
			l[i] = api.Ref(5 - i)
		}
		setGlobals(t, x, l...)
		for _, i := range noneOf(globals) {
			for _, r := range anyRefs {
				want(t, "SetGlobal", x.SetGlobal(i, r), api.ErrGlobal)
			}
		}
		wantGlobals(t, x, l...)
		wantAll(t, x, l...)
	}
}

func TestGlobalsTellsThoseThatAreNotZero(t *testing.T) {
	for _, l := range [][]api.Ref{
		{},
		refs(0),
		refs(5),
		refs(3, 2, 1, 4),
		refs(0, 2, 0, 4),
		refs(3, 0, 0, 4),
		refs(0, 0, 0, 0),
		refs(7, 7, 7, 7), // each one that has it
		refs(-1, math.MinInt, math.MaxInt, 0),
	} {
		x := table(t, 1, len(l))
		setGlobals(t, x, l...)
		wantGlobals(t, x, l...)
		wantGlobals(t, x, l...)
	}
}

// full is a table with globals, and three threads that have roots, and their roots in order.
func full(t *testing.T) (*root.Table, []api.Ref) {
	t.Helper()
	x := table(t, 4, 3, 3, 0, 2)
	setGlobals(t, x, 9, 0, 3)
	setReg(t, x, 0, 0, 8)
	setReg(t, x, 0, 2, 2)
	push(t, x, 0, 0, 7)
	push(t, x, 2, 6, 1)
	setReg(t, x, 3, 1, 9)
	push(t, x, 3, 9)
	return x, refs(9, 3, 8, 2, 7, 6, 1, 9, 9)
}

func TestAllTellsGlobalsAndThenEachThreadsRoots(t *testing.T) {
	x, all := full(t)
	wantAll(t, x, all...)
	wantAll(t, x, all...)
	wantAlive(t, x, 0, 2, 3)
	wantGlobals(t, x, 9, 0, 3)
	exit(t, x, 0)
	wantAll(t, x, 9, 3, 6, 1, 9, 9)
	setGlobals(t, x, 0, 0, 0)
	wantAll(t, x, 6, 1, 9, 9)
	exit(t, x, 3)
	wantAll(t, x, 6, 1)
	exit(t, x, 2)
	wantAll(t, x)
}

func TestAllMayBeLeft(t *testing.T) {
	x, all := full(t)
	for stop := range all {
		var l []api.Ref
		for r := range x.All() {
			l = append(l, r)
			if len(l) == stop+1 {
				break
			}
		}
		wantList(t, "All", l, all[:stop+1])
		wantAll(t, x, all...)
	}
}

func TestGlobalsAndThreadsMayBeLeft(t *testing.T) {
	x, _ := full(t)
	for r := range x.Globals() {
		want(t, "Globals", r, 9)
		break
	}
	for i := range x.Threads() {
		want(t, "Threads", i, 0)
		break
	}
	wantGlobals(t, x, 9, 0, 3)
	wantAlive(t, x, 0, 2, 3)
}

func TestAllIsOfTheTimeItIsGoneThrough(t *testing.T) {
	x := table(t, 2, 1)
	globals, threads, all := x.Globals(), x.Threads(), x.All()
	for _, step := range []struct {
		do             func()
		globals, roots []api.Ref
		alive          []int
	}{
		{func() {}, nil, nil, nil},
		{func() { setGlobals(t, x, 5) }, refs(5), refs(5), nil},
		{func() { spawn(t, x, 1) }, refs(5), refs(5), []int{1}},
		{func() { push(t, x, 1, 6) }, refs(5), refs(5, 6), []int{1}},
		{func() { spawn(t, x, 0) }, refs(5), refs(5, 6), []int{0, 1}},
		{func() { setReg(t, x, 0, 0, 7) }, refs(5), refs(5, 7, 6), []int{0, 1}},
		{func() { setGlobals(t, x, 0) }, nil, refs(7, 6), []int{0, 1}},
		{func() { exit(t, x, 1) }, nil, refs(7), []int{0}},
		{func() { spawn(t, x, 1) }, nil, refs(7), []int{0, 1}},
		{func() { exit(t, x, 0, 1) }, nil, nil, nil},
	} {
		step.do()
		wantList(t, "Globals", slices.Collect(globals), step.globals)
		wantList(t, "All", slices.Collect(all), step.roots)
		var alive []int
		for i := range threads {
			alive = append(alive, i)
		}
		wantList(t, "Threads", alive, step.alive)
	}
}

func TestThreadsComeAndGoWhileTheyAreTold(t *testing.T) {
	x := table(t, 4, 0, 0, 1, 2)
	var told []int
	for i, th := range x.Threads() {
		told = append(told, i)
		want(t, "Threads", th, x.Of(i))
		if i == 1 {
			exit(t, x, 0, 1, 2)
			spawn(t, x, 0, 3)
		}
	}
	wantList(t, "Threads", told, []int{0, 1, 3})
	wantAlive(t, x, 0, 3)
}

func TestEachThreadExitsAsItIsTold(t *testing.T) {
	x := table(t, 4, 0, 0, 1, 2, 3)
	for i := range x.Threads() {
		exit(t, x, i)
	}
	wantAlive(t, x)
}

func TestRootsChangeWhileAllAreTold(t *testing.T) {
	x := table(t, 3, 3, 0, 1)
	setGlobals(t, x, 1, 2, 0)
	setReg(t, x, 0, 0, 10)
	setReg(t, x, 1, 0, 20)
	var l []api.Ref
	for r := range x.All() {
		l = append(l, r)
		switch r {
		case 1:
			setGlobals(t, x, 5, 0, 3) // behind it, and ahead
			setReg(t, x, 0, 1, 11)
		case 10:
			setGlobals(t, x, 6)
			setReg(t, x, 0, 1, 12)
			exit(t, x, 1)
			spawn(t, x, 2)
			push(t, x, 2, 30)
		}
	}
	wantList(t, "All", l, refs(1, 3, 10, 12, 30))
	wantAll(t, x, 6, 3, 10, 12, 30)
}

func TestAThreadExitsAsItsRootsAreTold(t *testing.T) {
	x := table(t, 2, 0, 0, 1)
	setReg(t, x, 0, 0, 1)
	push(t, x, 0, 2, 3)
	setReg(t, x, 1, 0, 4)
	var l []api.Ref
	for r := range x.All() {
		l = append(l, r)
		if r == 1 {
			exit(t, x, 0)
			spawn(t, x, 0) // another one, which isn't told
			setReg(t, x, 0, 0, 5)
		}
	}
	wantList(t, "All", l, refs(1, 2, 3, 4))
	wantAll(t, x, 5, 4)
}

func TestAllWithinAll(t *testing.T) {
	x := table(t, 2, 1, 1)
	setGlobals(t, x, 1)
	setReg(t, x, 1, 0, 2)
	var l []api.Ref
	all := x.All()
	for r := range all {
		l = append(l, r)
		for r := range all {
			l = append(l, 10*r)
		}
	}
	wantList(t, "All", l, refs(1, 10, 20, 2, 10, 20))
}

func TestTablesAreApart(t *testing.T) {
	c := api.Config{Threads: 2, Regs: 1, Stack: 1, Globals: 1}
	x, y := root.New(c), root.New(c)
	spawn(t, x, 0)
	setGlobals(t, x, 5)
	setReg(t, x, 0, 0, 6)
	wantAlive(t, y)
	wantGlobals(t, y, 0)
	spawn(t, y, 0, 1)
	wantAll(t, y)
	exit(t, y, 0)
	wantAlive(t, x, 0)
	wantAll(t, x, 5, 6)
}

// model does what a table does, by lists; of a thread that doesn't live there is none.
type model struct {
	globals []api.Ref
	threads [][]api.Ref // their registers, and then their stacks
	alive   []bool
}

func (m *model) hasThread(i int) bool { return i >= 0 && i < len(m.alive) }

func (m *model) spawn(i int) api.Errno {
	if !m.hasThread(i) || m.alive[i] {
		return api.ErrThread
	}
	m.alive[i], m.threads[i] = true, make([]api.Ref, 2)
	return api.OK
}

func (m *model) exit(i int) api.Errno {
	if !m.hasThread(i) || !m.alive[i] {
		return api.ErrThread
	}
	m.alive[i], m.threads[i] = false, nil
	return api.OK
}

func (m *model) global(i int) (api.Ref, api.Errno) {
	if i < 0 || i >= len(m.globals) {
		return 0, api.ErrGlobal
	}
	return m.globals[i], api.OK
}

func (m *model) setGlobal(i int, r api.Ref) api.Errno {
	if i < 0 || i >= len(m.globals) {
		return api.ErrGlobal
	}
	m.globals[i] = r
	return api.OK
}

func (m *model) numbers() []int {
	return slices.DeleteFunc(upTo(len(m.alive)), func(i int) bool { return !m.alive[i] })
}

func (m *model) all() []api.Ref {
	all := slices.Concat(m.globals, slices.Concat(m.threads...))
	return slices.DeleteFunc(all, func(r api.Ref) bool { return r == 0 })
}

func TestAgainstAModel(t *testing.T) {
	rnd := rand.New(rand.NewSource(1))
	for threads := 1; threads <= maxThreads; threads++ {
		for globals := range maxGlobals + 1 {
			x := root.New(api.Config{Threads: threads, Regs: 2, Stack: 3, Globals: globals})
			m := &model{make([]api.Ref, globals), make([][]api.Ref, threads), make([]bool, threads)}
			for range 1000 {
				step(t, rnd, x, m)
				wantAlive(t, x, m.numbers()...)
				wantGlobals(t, x, m.globals...)
				wantAll(t, x, m.all()...)
			}
		}
	}
}

// step does one thing to both.
func step(t *testing.T, rnd *rand.Rand, x *root.Table, m *model) {
	t.Helper()
	i, r := rnd.Intn(maxThreads+3)-1, api.Ref(rnd.Intn(5))
	switch rnd.Intn(5) {
	case 0:
		want(t, "Spawn", x.Spawn(i), m.spawn(i))
	case 1:
		if rnd.Intn(2) == 0 { // so that there are more that live
			want(t, "Exit", x.Exit(i), m.exit(i))
		}
	case 2:
		want(t, "SetGlobal", x.SetGlobal(i, r), m.setGlobal(i, r))
	case 3:
		got, e := x.Global(i)
		r, err := m.global(i)
		want(t, "Global", got, r)
		want(t, "Global", e, err)
	default:
		if m.hasThread(i) && m.alive[i] {
			change(t, rnd, x.Of(i), &m.threads[i], r)
		}
	}
}

// change does one thing to a thread, and to the list that stands for it.
func change(t *testing.T, rnd *rand.Rand, th *thread.Thread, l *[]api.Ref, r api.Ref) {
	t.Helper()
	switch {
	case rnd.Intn(2) == 0:
		i := rnd.Intn(2)
		want(t, "SetReg", th.SetReg(i, r), api.OK)
		(*l)[i] = r
	case rnd.Intn(2) == 0 && !th.Full():
		want(t, "Push", th.Push(r), api.OK)
		*l = append(*l, r)
	case th.Depth() > 0:
		_, e := th.Pop()
		want(t, "Pop", e, api.OK)
		*l = (*l)[:len(*l)-1]
	}
}
