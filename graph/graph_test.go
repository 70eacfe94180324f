package graph_test

import (
	"math"
	"slices"
	"testing"

	"hawthorn/api"
	"hawthorn/graph"
	"hawthorn/op"
)

// wrong are numbers that no kind of a thread's items, no thread, code, register, field or global has.
var wrong = []int{-1, -2, 13, 14, 64, -1 << 32, 1 << 32, 1<<32 + 1, math.MinInt, math.MinInt + 1, math.MaxInt - 1, math.MaxInt}

func want[T comparable](t *testing.T, what string, got, want T) {
	t.Helper()
	if got != want {
		t.Fatalf("%s: %v, want %v", what, got, want)
	}
}

var small = api.Config{Black: true, Pages: 1, Threads: 3, Regs: 4, Stack: 2, Globals: 2, Fields: 3, Mark: 1, Budget: 1}

// A rig is a graph that is told items in short.
type rig struct {
	t *testing.T
	g *graph.Graph
}

// set is a graph with so many threads.
func set(t *testing.T, c api.Config, threads int) rig {
	t.Helper()
	r := rig{t, graph.New(c)}
	for th := range threads {
		r.item(api.Spawn, th, api.OK)
	}
	return r
}

// item is one of a kind, and the error that it must answer.
func (r rig) item(kind, th int, e api.Errno) {
	r.t.Helper()
	want(r.t, "answer", r.g.Do(api.Item{Kind: kind, T: th}, false), api.Answer{Err: e})
}

// at is how far a thread must be, and with what.
func (r rig) at(th int, x api.Item, far int) {
	r.t.Helper()
	got, n := r.g.At(th)
	want(r.t, "the operation", got, x)
	want(r.t, "how far it is", n, far)
}

// begin begins an operation.
func (r rig) begin(th, code, a, b, c int) api.Item {
	r.t.Helper()
	x := api.Item{Kind: api.Do, T: th, Code: code, A: a, B: b, C: c}
	want(r.t, "Do", r.g.Do(x, false), api.Answer{})
	r.at(th, x, 1)
	return x
}

// do is a whole operation: what its first Go came to.
func (r rig) do(full bool, th, code, a, b, c int) api.Answer {
	r.t.Helper()
	x := r.begin(th, code, a, b, c)
	got := r.g.Do(api.Item{Kind: api.Go, T: th}, full)
	r.at(th, x, 2)
	r.item(api.Go, th, api.OK)
	r.at(th, api.Item{}, 0)
	return got
}

// val is an operation of thread 0, and the number that it must answer.
func (r rig) val(n, code, a, b, c int) {
	r.t.Helper()
	want(r.t, op.Name(code), r.do(false, 0, code, a, b, c), api.Answer{Val: n})
}

// fails is one that must answer an error, and change nothing; it takes global 1 to look.
func (r rig) fails(e api.Errno, code, a, b, c int) {
	r.t.Helper()
	born := r.g.Born()
	was := r.numbers(0)
	want(r.t, op.Name(code), r.do(false, 0, code, a, b, c), api.Answer{Err: e})
	want(r.t, "Born", r.g.Born(), born)
	if now := r.numbers(0); !slices.Equal(now, was) {
		r.t.Fatalf("registers were %v, and are %v", was, now)
	}
}

// numbers are those of the objects in a thread's registers, by way of global 1, which has the last one's then.
func (r rig) numbers(th int) []int {
	r.t.Helper()
	var l []int
	for i := range small.Regs {
		r.do(false, th, api.PutG, i, 1, 0)
		l = append(l, r.do(false, th, api.GetG, i, 1, 0).Val)
	}
	return l
}

// reach is what roots must lead to.
func (r rig) reach(l ...int) {
	r.t.Helper()
	s := r.g.Reach()
	want(r.t, "Len", s.Len(), r.g.Born()+1)
	want(r.t, "Count", s.Count(), len(l))
	if got := slices.Collect(s.All()); !slices.Equal(got, l) {
		r.t.Fatalf("Reach: %v, want %v", got, l)
	}
}

func TestNewHasNothing(t *testing.T) {
	r := set(t, small, 0)
	want(t, "Born", r.g.Born(), 0)
	r.reach()
	for th := -1; th <= api.MaxThreads; th++ {
		r.at(th, api.Item{}, 0)
		r.item(api.Do, th, api.ErrThread)
		r.item(api.Go, th, api.ErrThread)
		r.item(api.Exit, th, api.ErrThread)
	}
	r.item(api.Spawn, 0, api.OK)
	for global := range small.Globals {
		r.val(0, api.GetG, 0, global, 0)
	}
}

// The chapter's example.
func TestTwoAllocs(t *testing.T) {
	r := set(t, small, 1)
	r.val(1, api.Alloc, 0, 0, 0)
	r.val(2, api.Alloc, 0, 0, 0)
	want(t, "Born", r.g.Born(), 2)
	r.reach(2)
}

func TestNumbersAreThoseOfAllThreads(t *testing.T) {
	r := set(t, small, 3)
	for n, th := range []int{2, 0, 0, 1, 2} {
		want(t, "Alloc", r.do(false, th, api.Alloc, th, 3, 0), api.Answer{Val: n + 1})
		want(t, "Born", r.g.Born(), n+1)
	}
	r.reach(3, 4, 5)
}

// The second of two Allocs that begin is the first that is done.
func TestBornWhenItIsDone(t *testing.T) {
	r := set(t, small, 2)
	r.begin(0, api.Alloc, 0, 0, 0)
	r.begin(1, api.Alloc, 0, 0, 0)
	want(t, "Born", r.g.Born(), 0)
	want(t, "Go", r.g.Do(api.Item{Kind: api.Go, T: 1}, false), api.Answer{Val: 1})
	want(t, "Go", r.g.Do(api.Item{Kind: api.Go, T: 0}, false), api.Answer{Val: 2})
	want(t, "Born", r.g.Born(), 2)
}

func TestAlloc(t *testing.T) {
	c := small
	c.Fields = api.MaxFields
	for fields := range c.Fields + 1 {
		r := set(t, c, 1)
		r.val(1, api.Alloc, 3, fields, 7)
		r.val(0, api.LoadS, 3, 0, 0)
		for i := range fields {
			r.val(0, api.Load, 0, 3, i)
		}
		r.fails(api.ErrField, api.Load, 0, 3, fields)
		r.fails(api.ErrField, api.Load, 0, 3, -1)
	}
	for fields := range api.MaxFields + 1 {
		c.Fields = fields
		r := set(t, c, 1)
		r.val(1, api.Alloc, 1, fields, 0)
		r.fails(api.ErrBig, api.Alloc, 1, fields+1, 0)
		r.fails(api.ErrBig, api.Alloc, 1, math.MaxInt, 0)
		r.fails(api.ErrField, api.Alloc, 1, -1, 0)
		r.fails(api.ErrField, api.Alloc, 1, math.MinInt, 0)
		r.fails(api.ErrReg, api.Alloc, 4, -1, 0)
		r.fails(api.ErrReg, api.Alloc, -1, fields+1, 0)
		r.reach(1)
	}
}

// An Alloc has no room just where that is told: by the item by which it is done.
func TestFull(t *testing.T) {
	r := set(t, small, 1)
	r.val(1, api.Alloc, 0, 1, 0)
	r.val(0, api.PutG, 0, 0, 0)
	want(t, "full", r.do(true, 0, api.Alloc, 0, 1, 0), api.Answer{Err: api.ErrMem})
	r.val(1, api.IsNil, 0, 0, 0)
	want(t, "Born", r.g.Born(), 1)
	r.reach(1)
	// Other errors come first, and leave the register.
	r.val(1, api.GetG, 0, 0, 0)
	want(t, "full", r.do(true, 0, api.Alloc, 0, 4, 0), api.Answer{Err: api.ErrBig})
	want(t, "full", r.do(true, 0, api.Alloc, 0, -1, 0), api.Answer{Err: api.ErrField})
	want(t, "full", r.do(true, 0, api.Alloc, 4, 0, 0), api.Answer{Err: api.ErrReg})
	r.val(0, api.IsNil, 0, 0, 0)
	// To no other part, and no other operation, does it matter.
	x := api.Item{Kind: api.Do, Code: api.Alloc, A: 1}
	want(t, "Do", r.g.Do(x, true), api.Answer{})
	want(t, "Go", r.g.Do(api.Item{Kind: api.Go}, false), api.Answer{Val: 2})
	want(t, "Go", r.g.Do(api.Item{Kind: api.Go}, true), api.Answer{})
	r.at(0, api.Item{}, 0)
	r.reach(1, 2)
	for _, l := range [][5]int{
		{api.Load, 2, 0, 0, 0}, {api.Store, 0, 0, 1, 0}, {api.StoreS, 0, 5, 0, 0}, {api.LoadS, 0, 0, 0, 5},
		{api.Move, 2, 1, 0, 0}, {api.Eq, 2, 1, 0, 1}, {api.IsNil, 3, 0, 0, 1}, {api.Push, 1, 0, 0, 0},
		{api.Pop, 3, 0, 0, 2}, {api.PutG, 1, 1, 0, 0}, {api.GetG, 3, 0, 0, 1}, {api.Clear, 3, 0, 0, 0},
	} {
		want(t, op.Name(l[0]), r.do(true, 0, l[0], l[1], l[2], l[3]), api.Answer{Val: l[4]})
	}
	for _, kind := range []int{api.Spawn, api.Exit} {
		want(t, "a thread comes and goes", r.g.Do(api.Item{Kind: kind, T: 1}, true), api.Answer{})
	}
	want(t, "Born", r.g.Born(), 2)
}

func TestFields(t *testing.T) {
	r := set(t, small, 1)
	r.val(1, api.Alloc, 0, 2, 0)
	r.val(2, api.Alloc, 1, 1, 0)
	r.val(0, api.Store, 0, 1, 1)
	r.val(0, api.Store, 1, 0, 0)
	r.val(2, api.Load, 2, 0, 1)
	r.val(1, api.Eq, 2, 1, 0)
	r.val(1, api.Load, 2, 2, 0) // out of the object that the register was
	r.val(1, api.Eq, 2, 0, 0)
	r.val(0, api.Load, 2, 0, 0)
	r.val(1, api.IsNil, 2, 0, 0)
	// What is taken out again isn't there.
	r.val(0, api.Store, 0, 1, 3)
	r.val(0, api.Load, 1, 0, 1)
	r.val(1, api.IsNil, 1, 0, 0)
	// An object may point to itself.
	r.val(0, api.Store, 0, 0, 0)
	r.val(1, api.Load, 1, 0, 0)
}

func TestFieldsThatThereAreNot(t *testing.T) {
	r := set(t, small, 1)
	r.val(1, api.Alloc, 0, 2, 0)
	r.val(2, api.Alloc, 1, 0, 0)
	for _, i := range append([]int{2, 3}, wrong...) {
		r.fails(api.ErrField, api.Load, 2, 0, i)
		r.fails(api.ErrField, api.Store, 0, i, 1)
		r.fails(api.ErrNil, api.Load, 2, 3, i)
		r.fails(api.ErrNil, api.Store, 3, i, 1)
	}
	r.fails(api.ErrField, api.Load, 2, 1, 0)
	r.fails(api.ErrField, api.Store, 1, 0, 1)
	// Of the document's examples, the second.
	r.fails(api.ErrNil, api.Store, 2, 0, 0)
	r.fails(api.ErrNil, api.Load, 1, 2, 0)
	r.val(0, api.Load, 2, 0, 0)
	r.val(0, api.Load, 2, 0, 1)
}

func TestScalars(t *testing.T) {
	r := set(t, small, 1)
	r.val(1, api.Alloc, 0, 1, 0)
	r.val(2, api.Alloc, 1, 1, 0)
	for _, n := range append([]int{0, 1, 7}, wrong...) {
		r.val(0, api.StoreS, 0, n, 0)
		r.val(0, api.StoreS, 1, 5, 0)
		r.val(n, api.LoadS, 0, 0, 0)
	}
	r.val(0, api.Load, 2, 0, 0)
	for _, n := range []int{0, 5} {
		r.fails(api.ErrNil, api.StoreS, 2, n, 0)
		r.fails(api.ErrNil, api.LoadS, 2, n, 0)
	}
}

func TestRegisters(t *testing.T) {
	r := set(t, small, 2)
	r.val(1, api.Alloc, 0, 0, 0)
	r.val(2, api.Alloc, 3, 0, 0)
	r.val(0, api.Move, 1, 0, 0)
	r.val(1, api.Eq, 0, 1, 0)
	r.val(0, api.Eq, 0, 3, 0)
	r.val(0, api.Eq, 0, 2, 0)
	r.val(1, api.Eq, 2, 2, 0)
	r.val(0, api.IsNil, 1, 0, 0)
	r.val(0, api.Clear, 1, 0, 0)
	r.val(1, api.IsNil, 1, 0, 0)
	r.val(1, api.Eq, 1, 2, 0)
	r.val(0, api.IsNil, 0, 0, 0)
	r.val(0, api.Move, 0, 2, 0)
	r.val(1, api.IsNil, 0, 0, 0)
	// Another thread's registers are its own.
	for i := range small.Regs {
		want(t, "IsNil", r.do(false, 1, api.IsNil, i, 0, 0), api.Answer{Val: 1})
	}
}

func TestRegistersThatThereAreNot(t *testing.T) {
	r := set(t, small, 1)
	for _, i := range append([]int{small.Regs}, wrong...) {
		for code := range api.PutG + 1 {
			r.fails(api.ErrReg, code, i, 0, 0)
		}
		for _, code := range []int{api.Load, api.Move, api.Eq} {
			r.fails(api.ErrReg, code, 0, i, 0)
		}
		r.fails(api.ErrReg, api.Store, 0, 0, i)
	}
}

func TestStack(t *testing.T) {
	r := set(t, small, 2)
	r.fails(api.ErrStack, api.Pop, 0, 0, 0)
	r.val(1, api.Alloc, 0, 0, 0)
	r.val(0, api.Push, 1, 0, 0)
	r.val(0, api.Push, 0, 0, 0)
	r.fails(api.ErrStack, api.Push, 0, 0, 0)
	want(t, "Pop of another thread", r.do(false, 1, api.Pop, 0, 0, 0), api.Answer{Err: api.ErrStack})
	r.val(1, api.Pop, 2, 0, 0)
	r.val(1, api.Eq, 0, 2, 0)
	r.val(0, api.Pop, 2, 0, 0)
	r.val(1, api.IsNil, 2, 0, 0)
	r.fails(api.ErrStack, api.Pop, 0, 0, 0)
	c := small
	c.Stack = 0
	want(t, "Push without a place", set(t, c, 1).do(false, 0, api.Push, 0, 0, 0), api.Answer{Err: api.ErrStack})
}

func TestGlobals(t *testing.T) {
	r := set(t, small, 2)
	r.val(1, api.Alloc, 0, 0, 0)
	r.val(0, api.PutG, 0, 1, 0)
	want(t, "GetG", r.do(false, 1, api.GetG, 3, 1, 0), api.Answer{Val: 1})
	r.val(0, api.GetG, 2, 0, 0)
	r.val(1, api.GetG, 2, 1, 0)
	r.val(1, api.Eq, 0, 2, 0)
	r.val(0, api.PutG, 3, 1, 0)
	r.val(0, api.GetG, 2, 1, 0)
	r.val(1, api.IsNil, 2, 0, 0)
	for _, i := range append([]int{small.Globals}, wrong...) {
		r.fails(api.ErrGlobal, api.GetG, 0, i, 0)
		r.fails(api.ErrGlobal, api.PutG, 0, i, 0)
		r.fails(api.ErrReg, api.PutG, 4, i, 0)
	}
	c := small
	c.Globals = 0
	want(t, "GetG without a global", set(t, c, 1).do(false, 0, api.GetG, 0, 0, 0), api.Answer{Err: api.ErrGlobal})
}

func TestThreadsComeAndGo(t *testing.T) {
	r := set(t, small, 0)
	for _, th := range append([]int{small.Threads, api.MaxThreads}, wrong...) {
		for _, kind := range []int{api.Spawn, api.Exit, api.Do, api.Go} {
			r.item(kind, th, api.ErrThread)
		}
		r.at(th, api.Item{}, 0)
	}
	r.item(api.Spawn, 1, api.OK)
	r.item(api.Spawn, 1, api.ErrThread)
	r.item(api.Exit, 0, api.ErrThread)
	r.item(api.Exit, 1, api.OK)
	r.item(api.Exit, 1, api.ErrThread)
	r.item(api.Spawn, 0, api.OK)
	r.val(1, api.Alloc, 0, 0, 0)
	r.val(0, api.Push, 0, 0, 0)
	r.item(api.Exit, 0, api.OK)
	r.item(api.Spawn, 0, api.OK)
	r.val(1, api.IsNil, 0, 0, 0)
	r.fails(api.ErrStack, api.Pop, 0, 0, 0)
}

func TestPartsOfAnOperation(t *testing.T) {
	r := set(t, small, 2)
	r.item(api.Go, 0, api.ErrBusy)
	x := r.begin(0, api.Clear, 3, 9, -9)
	for _, code := range []int{api.Alloc, -1, 13} {
		want(t, "Do", r.g.Do(api.Item{Code: code}, false), api.Answer{Err: api.ErrBusy})
	}
	r.item(api.Exit, 0, api.ErrBusy)
	r.item(api.Spawn, 0, api.ErrThread)
	r.at(0, x, 1)
	r.at(1, api.Item{}, 0)
	r.item(api.Go, 0, api.OK)
	r.at(0, x, 2)
	r.item(api.Do, 0, api.ErrBusy)
	r.item(api.Exit, 0, api.ErrBusy)
	r.item(api.Go, 0, api.OK)
	r.at(0, api.Item{}, 0)
	r.item(api.Go, 0, api.ErrBusy)
	r.item(api.Exit, 0, api.OK)
	r.at(0, api.Item{}, 0)
	// One with an error has all its parts, too.
	y := r.begin(1, api.Load, 0, 0, 0)
	r.item(api.Go, 1, api.ErrNil)
	r.at(1, y, 2)
	r.item(api.Go, 1, api.OK)
	r.at(1, api.Item{}, 0)
}

func TestCodesThatThereAreNot(t *testing.T) {
	r := set(t, small, 1)
	for _, code := range wrong {
		want(t, "Do", r.g.Do(api.Item{Code: code, A: -1}, false), api.Answer{Err: api.ErrItem})
		r.at(0, api.Item{}, 0)
		want(t, "Do", r.g.Do(api.Item{T: 1, Code: code}, false), api.Answer{Err: api.ErrThread})
	}
}

// What an operation does is done by its first Go: neither when it begins, nor when it ends.
func TestWhenItIsDone(t *testing.T) {
	r := set(t, small, 2)
	r.val(1, api.Alloc, 0, 0, 0)
	r.begin(0, api.PutG, 0, 0, 0)
	seen := func(n int) {
		t.Helper()
		want(t, "GetG", r.do(false, 1, api.GetG, 0, 0, 0), api.Answer{Val: n})
	}
	seen(0)
	r.item(api.Go, 0, api.OK)
	seen(1)
	r.do(false, 1, api.PutG, 3, 0, 0)
	r.item(api.Go, 0, api.OK)
	seen(0)
}

// Items that aren't of a thread answer nothing, and do nothing.
func TestOtherKinds(t *testing.T) {
	r := set(t, small, 1)
	r.val(1, api.Alloc, 0, 0, 0)
	x := r.begin(0, api.Clear, 0, 0, 0)
	for _, kind := range append([]int{api.Start, api.Ack, api.Trace, api.Remark, api.Sweep, 9}, wrong...) {
		for _, th := range []int{0, 1, -1, small.Threads} {
			for _, full := range []bool{false, true} {
				want(t, "answer", r.g.Do(api.Item{Kind: kind, T: th, Code: -1}, full), api.Answer{})
			}
		}
		r.at(0, x, 1)
		r.at(1, api.Item{}, 0)
		r.reach(1)
	}
}

func TestReach(t *testing.T) {
	r := set(t, small, 2)
	// 1 leads to 2 and 3, 3 to 1 and to itself; 4 leads to 3; 5 leads nowhere.
	for i := range 4 {
		r.val(i+1, api.Alloc, i, 2, 0)
	}
	r.reach(1, 2, 3, 4)
	r.val(0, api.Store, 0, 0, 1)
	r.val(0, api.Store, 0, 1, 2)
	r.val(0, api.Store, 2, 0, 0)
	r.val(0, api.Store, 2, 1, 2)
	r.val(0, api.Store, 3, 1, 2)
	r.val(0, api.Clear, 1, 0, 0)
	r.val(0, api.Clear, 2, 0, 0)
	r.val(0, api.PutG, 3, 1, 0)
	r.val(0, api.Push, 3, 0, 0)
	r.val(5, api.Alloc, 3, 0, 0)
	r.val(0, api.Push, 3, 0, 0)
	r.reach(1, 2, 3, 4, 5)
	r.val(0, api.Clear, 3, 0, 0)
	r.reach(1, 2, 3, 4, 5) // 5 by the stack
	r.val(5, api.Pop, 3, 0, 0)
	r.val(0, api.Clear, 3, 0, 0)
	r.reach(1, 2, 3, 4)
	r.val(0, api.Clear, 0, 0, 0)
	r.reach(1, 2, 3, 4) // by 4
	r.val(0, api.PutG, 0, 1, 0)
	r.reach(1, 2, 3, 4) // by the stack
	want(t, "GetG", r.do(false, 1, api.GetG, 0, 0, 0), api.Answer{})
	r.item(api.Exit, 0, api.OK)
	r.reach()
	want(t, "Born", r.g.Born(), 5)
}

// What was taken out of a field is reached no more by it, nor by what is born behind it.
func TestReachOfWhatIsTakenOut(t *testing.T) {
	r := set(t, small, 1)
	r.val(1, api.Alloc, 0, 1, 0)
	r.val(2, api.Alloc, 1, 1, 0)
	r.val(0, api.Store, 0, 0, 1)
	r.val(0, api.Clear, 1, 0, 0)
	r.reach(1, 2)
	r.val(0, api.Store, 0, 0, 1)
	r.reach(1)
	r.val(0, api.Clear, 0, 0, 0)
	r.reach()
	r.val(3, api.Alloc, 0, 1, 0)
	r.reach(3)
}

// What Reach answers is the caller's to change, and is of the time at which it was asked.
func TestReachIsNew(t *testing.T) {
	r := set(t, small, 1)
	r.val(1, api.Alloc, 0, 0, 0)
	s := r.g.Reach()
	r.val(2, api.Alloc, 1, 0, 0)
	want(t, "Len", s.Len(), 2)
	want(t, "Count", s.Count(), 1)
	s.Reset()
	r.reach(1, 2)
}

// There is room for as many objects as come: a list of them, and none goes.
func TestManyObjects(t *testing.T) {
	const many = 200000
	r := set(t, small, 1)
	for i := range many {
		r.val(i+1, api.Alloc, 1, 1, 0)
		r.val(0, api.Store, 1, 0, 0)
		r.val(0, api.Move, 0, 1, 0)
	}
	want(t, "Born", r.g.Born(), many)
	want(t, "Reach", r.g.Reach().Count(), many)
	r.val(0, api.Clear, 0, 0, 0)
	r.val(many-1, api.Load, 1, 1, 0)
	want(t, "Reach", r.g.Reach().Count(), many-1)
	r.val(0, api.Clear, 1, 0, 0)
	r.reach()
	want(t, "Born", r.g.Born(), many)
}

// Of configurations that may not be nothing is said, but that no call panics.
func TestConfigurationsThatMayNotBe(t *testing.T) {
	for _, n := range wrong {
		g := graph.New(api.Config{Pages: n, Threads: n, Regs: n, Stack: n, Globals: n, Fields: n, Mark: n, Log: n, Budget: n})
		for _, th := range append([]int{0, 3, 4}, wrong...) {
			g.Do(api.Item{Kind: api.Spawn, T: th}, false)
			for code := range api.PutG + 1 {
				for _, b := range append([]int{0, 7}, wrong...) {
					g.Do(api.Item{T: th, Code: code, A: 0, B: b, C: b}, false)
					g.Do(api.Item{Kind: api.Go, T: th}, false)
					g.Do(api.Item{Kind: api.Go, T: th}, false)
				}
			}
			g.At(th)
		}
		want(t, "Len", g.Reach().Len(), g.Born()+1)
	}
}

func TestGraphsAreApart(t *testing.T) {
	a, b := set(t, small, 1), set(t, small, 1)
	a.val(1, api.Alloc, 0, 0, 0)
	a.val(0, api.PutG, 0, 0, 0)
	a.begin(0, api.Clear, 0, 0, 0)
	b.at(0, api.Item{}, 0)
	b.reach()
	b.val(0, api.GetG, 0, 0, 0)
	b.val(1, api.Alloc, 0, 0, 0)
}
