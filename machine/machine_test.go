package machine_test

import (
	"math"
	"slices"
	"testing"

	"hawthorn/api"
	"hawthorn/config"
	"hawthorn/machine"
)

// wrong are numbers that no kind, thread, code, register, field or global has.
var wrong = []int{-1, -2, 9, 13, 14, 64, -1 << 32, 1 << 32, 1<<32 + 1, math.MinInt, math.MinInt + 1, math.MaxInt - 1, math.MaxInt}

func want[T comparable](t *testing.T, what string, got, want T) {
	t.Helper()
	if got != want {
		t.Fatalf("%s: %v, want %v", what, got, want)
	}
}

func wantList(t *testing.T, what string, got []api.Ref, want ...api.Ref) {
	t.Helper()
	if !slices.Equal(got, want) {
		t.Fatalf("%s: %v, want %v", what, got, want)
	}
}

func wantResult(t *testing.T, what string, got, want machine.Result) {
	t.Helper()
	if got.Answer != want.Answer || got.Ref != want.Ref || got.Began != want.Began || got.Marked != want.Marked ||
		got.Done != want.Done || !slices.Equal(got.Freed, want.Freed) {
		t.Fatalf("%s: %+v, want %+v", what, got, want)
	}
}

// of is a configuration of an engine.
func of(e int) api.Config {
	return api.Config{Engine: e, Black: true, Pages: 3, Threads: 2, Regs: 4, Stack: 2, Globals: 2, Fields: 3, Mark: 1, Log: 1, Budget: 2}
}

// each runs a test for each configuration of all engines.
func each(t *testing.T, do func(t *testing.T, c api.Config)) {
	for _, c := range config.All(of(api.Steele)) {
		name := config.Name(c.Engine) + " white"
		if c.Black {
			name = config.Name(c.Engine) + " black"
		}
		t.Run(name, func(t *testing.T) { do(t, c) })
	}
}

// A rig is a machine that is told items in short.
type rig struct {
	t *testing.T
	x *machine.Machine
}

// set is a machine with so many threads.
func set(t *testing.T, c api.Config, threads int) rig {
	t.Helper()
	x, e := machine.New(c)
	want(t, "New", e, api.OK)
	g := rig{t, x}
	for th := range threads {
		g.item(api.Spawn, th, api.Answer{})
	}
	return g
}

// item is one of a kind, and what it must answer.
func (g rig) item(kind, th int, answer api.Answer) machine.Result {
	g.t.Helper()
	r := g.x.Do(api.Item{Kind: kind, T: th})
	want(g.t, "answer", r.Answer, answer)
	return r
}

// begin begins an operation.
func (g rig) begin(th, code, a, b, c int) {
	g.t.Helper()
	r := g.x.Do(api.Item{Kind: api.Do, T: th, Code: code, A: a, B: b, C: c})
	wantResult(g.t, "Do", r, machine.Result{})
	want(g.t, "Begun", g.x.Begun(th), true)
}

// do is a whole operation: what its first Go came to.
func (g rig) do(th, code, a, b, c int) machine.Result {
	g.t.Helper()
	g.begin(th, code, a, b, c)
	r := g.x.Do(api.Item{Kind: api.Go, T: th})
	want(g.t, "Begun", g.x.Begun(th), false)
	want(g.t, "Idle", g.x.Idle(th), false)
	g.item(api.Go, th, api.Answer{})
	want(g.t, "Idle", g.x.Idle(th), true)
	return r
}

// born is a new object of so many fields in a register.
func (g rig) born(th, reg, fields int) api.Ref {
	g.t.Helper()
	r := g.do(th, api.Alloc, reg, fields, 0)
	if r.Err != api.OK || r.Ref == 0 {
		g.t.Fatalf("Alloc: %+v", r)
	}
	return r.Ref
}

// fails is an operation with an error.
func (g rig) fails(e api.Errno, th, code, a, b, c int) {
	g.t.Helper()
	wantResult(g.t, "what fails", g.do(th, code, a, b, c), refusedBy(e))
}

// val is an operation that answers a number, and no object.
func (g rig) val(n int, th, code, a, b, c int) {
	g.t.Helper()
	wantResult(g.t, "what answers a number", g.do(th, code, a, b, c), machine.Result{Answer: api.Answer{Val: n}})
}

// ref is an operation that tells an object.
func (g rig) ref(r api.Ref, th, code, a, b, c int) {
	g.t.Helper()
	wantResult(g.t, "what tells an object", g.do(th, code, a, b, c), machine.Result{Ref: r})
}

// reg is what a register must be.
func (g rig) reg(th, i int, r api.Ref) {
	g.t.Helper()
	got, e := g.x.Roots().Of(th).Reg(i)
	want(g.t, "Reg", e, api.OK)
	want(g.t, "Reg", got, r)
}

// upTo begins a cycle, and lets threads 0 and 1 acknowledge till a phase.
func (g rig) upTo(phase int) {
	g.t.Helper()
	wantResult(g.t, "Start", g.item(api.Start, 0, api.Answer{Val: 1}), machine.Result{Answer: api.Answer{Val: 1}, Began: true})
	for g.x.Phase() < phase {
		now := g.x.Phase()
		g.item(api.Ack, 0, api.Answer{Val: 1})
		want(g.t, "Phase", g.x.Phase(), now)
		g.item(api.Ack, 1, api.Answer{Val: 1})
		want(g.t, "Phase", g.x.Phase(), now+1)
	}
}

// remark ends marking.
func (g rig) remark() {
	g.t.Helper()
	want(g.t, "Marked", g.item(api.Remark, 0, api.Answer{Val: 1}).Marked, true)
	want(g.t, "Phase", g.x.Phase(), api.Sweeping)
}

// sweep sweeps a page.
func (g rig) sweep(done bool, freed ...api.Ref) {
	g.t.Helper()
	r := g.item(api.Sweep, 0, api.Answer{Val: len(freed)})
	wantList(g.t, "Freed", r.Freed, freed...)
	want(g.t, "Done", r.Done, done)
}

// colours: just these are grey, and just these black.
func (g rig) colours(grey, black []api.Ref) {
	g.t.Helper()
	m := g.x.Marker()
	for r := range g.x.Arena().All() {
		if m.Marked(r) != (slices.Contains(grey, r) || slices.Contains(black, r)) || m.Scanned(r) != slices.Contains(black, r) {
			g.t.Fatalf("object %d: marked %v, scanned %v; grey are %v, black %v", r, m.Marked(r), m.Scanned(r), grey, black)
		}
	}
}

func TestNewRefusesWhatMayNotBe(t *testing.T) {
	bad := []api.Config{{}, of(-1), of(4), of(math.MaxInt)}
	for _, spoil := range []func(*api.Config, int){
		func(c *api.Config, n int) { c.Pages = n },
		func(c *api.Config, n int) { c.Threads = n },
		func(c *api.Config, n int) { c.Regs = n },
		func(c *api.Config, n int) { c.Stack = n },
		func(c *api.Config, n int) { c.Globals = n },
		func(c *api.Config, n int) { c.Fields = n },
		func(c *api.Config, n int) { c.Mark = n },
		func(c *api.Config, n int) { c.Log = n },
		func(c *api.Config, n int) { c.Budget = n },
	} {
		for _, n := range []int{-1, 65, 1 << 32, math.MinInt, math.MaxInt} {
			c := of(api.Vyb)
			spoil(&c, n)
			bad = append(bad, c)
		}
	}
	white := of(api.Yuasa)
	white.Black = false
	for _, c := range append(bad, white) {
		x, e := machine.New(c)
		want(t, "New", e, api.ErrConfig)
		want(t, "there is a machine", x != nil, false)
	}
}

func TestNew(t *testing.T) {
	each(t, func(t *testing.T, c api.Config) {
		g := set(t, c, 0)
		want(t, "Phase", g.x.Phase(), api.Idle)
		want(t, "Pages", g.x.Arena().Pages(), 3)
		want(t, "Free", g.x.Arena().Free(), 3)
		want(t, "the marker's arena", g.x.Marker().Arena(), g.x.Arena())
		want(t, "Count of threads", g.x.Roots().Count(), 0)
		for _, th := range append(wrong, 0, 1, 2, 3, 4) {
			want(t, "Idle", g.x.Idle(th), false)
			want(t, "Begun", g.x.Begun(th), false)
		}
	})
}

// The example; of the document's, the first.
func TestFirstObject(t *testing.T) {
	g := set(t, of(api.Vyb), 1)
	g.begin(0, api.Alloc, 0, 2, 0)
	want(t, "objects", len(slices.Collect(g.x.Arena().All())), 0)
	wantResult(t, "Go", g.x.Do(api.Item{Kind: api.Go}), machine.Result{Ref: 1})
	g.reg(0, 0, 1)
	wantResult(t, "Go", g.x.Do(api.Item{Kind: api.Go}), machine.Result{})
	g.item(api.Go, 0, api.Answer{Err: api.ErrBusy})
}

func TestSpawnAndExit(t *testing.T) {
	g := set(t, of(api.Vyb), 0)
	for range 2 {
		for _, th := range append(wrong, 0, 1, 2, 3, 4) {
			g.item(api.Exit, th, api.Answer{Err: api.ErrThread})
			g.item(api.Ack, th, api.Answer{Err: api.ErrThread})
			g.item(api.Go, th, api.Answer{Err: api.ErrThread})
			g.item(api.Do, th, api.Answer{Err: api.ErrThread})
			want(t, "Live", g.x.Roots().Live(th), false)
		}
		for _, th := range append(wrong, 2, 3, 4) {
			g.item(api.Spawn, th, api.Answer{Err: api.ErrThread})
		}
		for th := range 2 {
			g.item(api.Spawn, th, api.Answer{})
			g.item(api.Spawn, th, api.Answer{Err: api.ErrThread})
			want(t, "Idle", g.x.Idle(th), true)
		}
		g.born(1, 3, 0)
		g.do(1, api.Push, 3, 0, 0)
		g.begin(1, api.IsNil, 0, 0, 0)
		g.item(api.Exit, 1, api.Answer{Err: api.ErrBusy})
		g.item(api.Go, 1, api.Answer{Val: 1})
		g.item(api.Exit, 1, api.Answer{Err: api.ErrBusy})
		g.item(api.Spawn, 1, api.Answer{Err: api.ErrThread})
		g.item(api.Go, 1, api.Answer{})
		g.item(api.Exit, 1, api.Answer{})
		g.item(api.Exit, 0, api.Answer{})
		want(t, "Count", g.x.Roots().Count(), 0)
	}
	// Of what it had nothing is left.
	g.item(api.Spawn, 1, api.Answer{})
	g.reg(1, 3, 0)
	g.fails(api.ErrStack, 1, api.Pop, 0, 0, 0)
}

func TestWrongItems(t *testing.T) {
	g := set(t, of(api.Dijkstra), 1)
	for _, kind := range wrong {
		for _, th := range []int{0, 1, -1} {
			g.item(kind, th, api.Answer{Err: api.ErrItem})
		}
	}
	do := func(th, code int, e api.Errno) {
		t.Helper()
		wantResult(t, "Do", g.x.Do(api.Item{Kind: api.Do, T: th, Code: code}), refusedBy(e))
	}
	for _, code := range wrong {
		if code >= 0 && code <= api.PutG {
			continue
		}
		do(0, code, api.ErrItem)
		want(t, "Idle", g.x.Idle(0), true)
		do(1, code, api.ErrThread)
		do(-1, code, api.ErrThread)
	}
	g.begin(0, api.Clear, 0, 0, 0)
	for range 2 {
		do(0, api.Clear, api.ErrBusy)
		do(0, -1, api.ErrBusy)
		do(0, math.MaxInt, api.ErrBusy)
		g.item(api.Go, 0, api.Answer{})
	}
	do(0, -1, api.ErrItem)
	// What a Go is told beside its thread plays no part.
	g.begin(0, api.IsNil, 1, 0, 0)
	r := g.x.Do(api.Item{Kind: api.Go, Code: -5, A: 9, B: 9, C: 9})
	want(t, "Go", r.Answer, api.Answer{Val: 1})
}

func TestNumbersOfOperations(t *testing.T) {
	each(t, func(t *testing.T, c api.Config) {
		g := set(t, c, 1)
		for _, n := range append(wrong, 4) {
			for code := api.Alloc; code <= api.PutG; code++ {
				g.fails(api.ErrReg, 0, code, n, n, n)
			}
			for _, code := range []int{api.Load, api.Move, api.Eq} {
				g.fails(api.ErrReg, 0, code, 0, n, n)
			}
			g.fails(api.ErrReg, 0, api.Store, 0, n, n)
			g.fails(api.ErrGlobal, 0, api.GetG, 0, n, 0)
			g.fails(api.ErrGlobal, 0, api.PutG, 0, n, 0)
			if n < 0 {
				g.fails(api.ErrField, 0, api.Alloc, 0, n, 0)
			} else {
				g.fails(api.ErrBig, 0, api.Alloc, 0, n, 0)
			}
			g.fails(api.ErrNil, 0, api.Load, 1, 0, n)
			g.fails(api.ErrNil, 0, api.Store, 0, n, 1)
			want(t, "objects", len(slices.Collect(g.x.Arena().All())), 0)
			r := g.born(0, 0, 3)
			g.fails(api.ErrField, 0, api.Load, 0, 0, n)
			g.fails(api.ErrField, 0, api.Load, 0, 0, 3)
			g.fails(api.ErrField, 0, api.Store, 0, n, 0)
			g.fails(api.ErrField, 0, api.Store, 0, 3, 0)
			g.reg(0, 0, r)
			g.do(0, api.Clear, 0, 0, 0)
			g.x.Arena().Give(r)
		}
		g.fails(api.ErrGlobal, 0, api.GetG, 0, 2, 0)
		g.fails(api.ErrGlobal, 0, api.PutG, 0, 2, 0)
		wantList(t, "roots", slices.Collect(g.x.Roots().All()))
	})
}

func TestOperations(t *testing.T) {
	each(t, func(t *testing.T, c api.Config) {
		g := set(t, c, 2)
		one, two := g.born(0, 0, 2), g.born(0, 1, 3)
		g.val(0, 0, api.Store, 0, 1, 1)
		g.ref(two, 0, api.Load, 2, 0, 1)
		g.ref(0, 0, api.Load, 3, 0, 0)
		g.val(1, 0, api.Eq, 1, 2, 0)
		g.val(0, 0, api.Eq, 0, 1, 0)
		g.val(1, 0, api.IsNil, 3, 0, 0)
		g.val(0, 0, api.IsNil, 2, 0, 0)
		g.val(0, 0, api.StoreS, 1, -7, 0)
		g.val(-7, 0, api.LoadS, 2, 0, 0)
		g.val(0, 0, api.LoadS, 0, 0, 0)
		g.val(0, 0, api.StoreS, 1, math.MinInt, 0)
		g.val(math.MinInt, 0, api.LoadS, 1, 0, 0)
		g.fails(api.ErrNil, 0, api.LoadS, 3, 0, 0)
		g.fails(api.ErrNil, 0, api.StoreS, 3, 1, 0)
		g.fails(api.ErrNil, 0, api.Load, 3, 3, 0)
		g.fails(api.ErrNil, 0, api.Store, 3, 0, 0)
		g.val(0, 0, api.Move, 3, 0, 0)
		g.reg(0, 3, one)
		g.val(0, 0, api.Clear, 2, 0, 0)
		g.reg(0, 2, 0)
		// An object may lead to itself, and stand where it is read from.
		g.val(0, 0, api.Store, 0, 0, 0)
		g.ref(one, 0, api.Load, 0, 0, 0)
		g.ref(two, 0, api.Load, 0, 0, 1)
		g.reg(0, 0, two)
		// A stack takes what is nil, too.
		g.fails(api.ErrStack, 0, api.Pop, 3, 0, 0)
		g.reg(0, 3, one)
		g.val(0, 0, api.Push, 3, 0, 0)
		g.val(0, 0, api.Push, 2, 0, 0)
		g.fails(api.ErrStack, 0, api.Push, 1, 0, 0)
		g.ref(0, 0, api.Pop, 3, 0, 0)
		g.ref(one, 0, api.Pop, 2, 0, 0)
		g.fails(api.ErrStack, 0, api.Pop, 2, 0, 0)
		g.reg(0, 2, one)
		g.reg(0, 3, 0)
		// Globals are for all threads, registers aren't.
		g.val(0, 0, api.PutG, 2, 1, 0)
		g.reg(1, 2, 0)
		g.ref(one, 1, api.GetG, 2, 1, 0)
		g.ref(0, 1, api.GetG, 0, 0, 0)
		g.reg(1, 2, one)
		wantList(t, "roots", slices.Collect(g.x.Roots().All()), one, two, two, one, one)
	})
}

// What an operation comes to hangs on how things are when it is done, not when it began.
func TestDoneByGo(t *testing.T) {
	g := set(t, of(api.Steele), 2)
	r := g.born(0, 0, 1)
	g.do(0, api.PutG, 0, 0, 0)
	g.begin(1, api.GetG, 0, 0, 0)
	g.do(0, api.PutG, 1, 0, 0)
	wantResult(t, "Go", g.x.Do(api.Item{Kind: api.Go, T: 1}), machine.Result{})
	g.do(0, api.PutG, 0, 0, 0)
	g.item(api.Go, 1, api.Answer{})
	g.reg(1, 0, 0)
	g.ref(r, 1, api.GetG, 0, 0, 0)
}

// Of the document's examples, the third; P19.3.
func TestNoRoom(t *testing.T) {
	each(t, func(t *testing.T, c api.Config) {
		c.Pages = 1
		g := set(t, c, 1)
		for range 4 {
			g.born(0, 1, 3)
		}
		for fields := range 4 {
			g.do(0, api.Move, 0, 1, 0)
			g.fails(api.ErrMem, 0, api.Alloc, 0, fields, 0)
			g.reg(0, 0, 0)
		}
		g.begin(0, api.Alloc, 1, 3, 0)
		g.item(api.Go, 0, api.Answer{Err: api.ErrMem})
		want(t, "Idle", g.x.Idle(0), false)
		g.item(api.Go, 0, api.Answer{})
		wantList(t, "roots", slices.Collect(g.x.Roots().All()))
	})
}
