package graph_test

import (
	"math/rand"
	"slices"
	"strconv"
	"testing"

	"hawthorn/api"
	"hawthorn/cell"
	"hawthorn/config"
	"hawthorn/graph"
	"hawthorn/machine"
	"hawthorn/op"
)

// A pair is a machine, and a graph that does the same items, with no room where the machine has none.
type pair struct {
	t      *testing.T
	c      api.Config
	x      *machine.Machine
	g      *graph.Graph
	births map[api.Ref]int // of the objects of the arena
	refs   map[int]api.Ref // and back
	seen   map[string]int
}

func newPair(t *testing.T, c api.Config, seen map[string]int) *pair {
	t.Helper()
	x, e := machine.New(c)
	want(t, "New", e, api.OK)
	return &pair{t, c, x, graph.New(c), map[api.Ref]int{}, map[int]api.Ref{}, seen}
}

// step does an item, and holds the graph to the machine: P1.
func (p *pair) step(i api.Item) {
	p.t.Helper()
	var code int
	if p.x.Begun(i.T) {
		x, _ := p.g.At(i.T)
		code = x.Code
	}
	does := i.Kind == api.Go && p.x.Begun(i.T)
	r := p.x.Do(i)
	if does && code == api.Alloc && r.Err == api.OK {
		p.births[r.Ref] = p.g.Born() + 1
		p.refs[p.g.Born()+1] = r.Ref
	}
	should := r.Answer
	switch {
	case i.Kind < 0 || i.Kind > api.Exit:
		should = api.Answer{}
	case does && op.Tells(code) && r.Err == api.OK:
		should.Val = p.births[r.Ref] // 0 of 0
	}
	what := "item " + strconv.Itoa(i.Kind) + " of thread " + strconv.Itoa(i.T)
	want(p.t, what, p.g.Do(i, r.Err == api.ErrMem), should)
	p.seen["error "+strconv.Itoa(int(should.Err))]++
	for _, freed := range r.Freed {
		delete(p.refs, p.births[freed])
		delete(p.births, freed)
		p.seen["freed"]++
	}
	p.hold()
	if r.Marked {
		p.holdKept()
	}
}

// hold: are the threads where the machine's are, and do roots lead to the same objects?
func (p *pair) hold() {
	p.t.Helper()
	for th := -1; th <= p.c.Threads; th++ {
		x, far := p.g.At(th)
		want(p.t, "begun", far == 1, p.x.Begun(th))
		want(p.t, "done", far == 2, p.x.Roots().Live(th) && !p.x.Begun(th) && !p.x.Idle(th))
		want(p.t, "an operation", far > 0 || x == api.Item{}, true)
	}
	var reached []int
	found := map[api.Ref]bool{}
	for ahead := slices.Collect(p.x.Roots().All()); len(ahead) > 0; ahead = ahead[1:] {
		r := ahead[0]
		if !found[r] {
			found[r] = true
			reached = append(reached, p.births[r])
			ahead = slices.AppendSeq(ahead, cell.Points(p.x.Arena(), r))
		}
	}
	slices.Sort(reached)
	s := p.g.Reach()
	want(p.t, "Len", s.Len(), p.g.Born()+1)
	if got := slices.Collect(s.All()); !slices.Equal(got, reached) {
		p.t.Fatalf("Reach: %v, want %v", got, reached)
	}
}

// holdKept: what can be reached in the graph when marking ends is kept by the machine.
func (p *pair) holdKept() {
	p.t.Helper()
	for birth := range p.g.Reach().All() {
		want(p.t, "is kept", p.x.Marker().Marked(p.refs[birth]), true)
	}
	p.seen["cycle"]++
}

// someItem is an item: most often one that can be done, now and then one that can't.
func someItem(rnd *rand.Rand, c api.Config) api.Item {
	// Code 0 is that of Alloc.
	i := api.Item{T: rnd.Intn(c.Threads), Code: max(rnd.Intn(api.PutG+5)-4, api.Alloc), A: rnd.Intn(c.Regs), B: rnd.Intn(c.Regs), C: rnd.Intn(c.Regs)}
	switch i.Code {
	case api.Alloc, api.Store:
		i.B = rnd.Intn(c.Fields + 2)
	case api.GetG, api.PutG:
		i.B = rnd.Intn(c.Globals + 1)
	}
	kinds := []struct{ kind, often int }{
		{api.Do, 60}, {api.Go, 110}, {api.Spawn, 3}, {api.Exit, 1}, {api.Start, 1}, {api.Ack, 6}, {api.Trace, 6}, {api.Remark, 3}, {api.Sweep, 7},
	}
	for n, k := rnd.Intn(200), 0; k < len(kinds); k++ {
		if n -= kinds[k].often; n < 0 {
			i.Kind = kinds[k].kind
			return i
		}
	}
	places := []*int{&i.Kind, &i.T, &i.Code, &i.A, &i.B, &i.C}
	*places[rnd.Intn(len(places))] = wrong[rnd.Intn(len(wrong))]
	return i
}

func TestAgainstMachines(t *testing.T) {
	seen := map[string]int{}
	for n, c := range []api.Config{
		{Pages: 1, Threads: 1, Regs: 1, Mark: 1, Budget: 1},
		{Pages: 2, Threads: 2, Regs: 3, Stack: 1, Globals: 1, Fields: 2, Mark: 1, Log: 0, Budget: 1},
		{Pages: 4, Threads: 3, Regs: 4, Stack: 2, Globals: 2, Fields: 6, Mark: 2, Log: 1, Budget: 2},
		{Pages: 9, Threads: 4, Regs: 2, Stack: 3, Globals: 3, Fields: 4, Mark: 8, Log: 6, Budget: 5},
		{Pages: 64, Threads: 4, Regs: 8, Stack: 8, Globals: 4, Fields: 6, Mark: 64, Log: 64, Budget: 16},
	} {
		for seed, c := range config.All(c) {
			rnd := rand.New(rand.NewSource(int64(n*100 + seed)))
			p := newPair(t, c, seen)
			for range 4000 {
				p.step(someItem(rnd, c))
			}
		}
	}
	for _, what := range []string{
		"error 1", "error 2", "error 3", "error 4", "error 5", "error 6", "error 7", "error 8", "error 9", "error 10", "cycle", "freed",
	} {
		if seen[what] < 20 {
			t.Errorf("%s: seen %d times", what, seen[what])
		}
	}
}
