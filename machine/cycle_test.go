package machine_test

import (
	"math/rand"
	"testing"

	"hawthorn/api"
	"hawthorn/machine"
)

// Of the document's examples, the fourth.
func TestWholeCycle(t *testing.T) {
	each(t, func(t *testing.T, c api.Config) {
		g := set(t, c, 2)
		kept, lost, inside := g.born(0, 0, 3), g.born(0, 1, 3), g.born(0, 2, 0)
		g.do(0, api.Store, 0, 1, 2)
		g.do(0, api.Clear, 1, 0, 0)
		g.do(0, api.Clear, 2, 0, 0)
		for range 3 {
			g.upTo(api.Marking)
			g.colours([]api.Ref{kept}, nil)
			g.remark()
			g.colours(nil, []api.Ref{kept, inside})
			if g.x.Arena().Has(lost) {
				g.sweep(false, lost)
			} else {
				g.sweep(false)
			}
			g.colours(nil, []api.Ref{inside})
			g.sweep(false)
			want(t, "Phase", g.x.Phase(), api.Sweeping)
			g.sweep(true)
			want(t, "Phase", g.x.Phase(), api.Idle)
			g.colours(nil, nil)
			want(t, "kept", g.x.Arena().Has(kept) && g.x.Arena().Has(inside), true)
		}
	})
}

// An item of the collector that comes at another time does nothing.
func TestItemsAtOtherTimes(t *testing.T) {
	each(t, func(t *testing.T, c api.Config) {
		g := set(t, c, 2)
		r := g.born(0, 0, 1)
		nothing := func(kinds ...int) {
			t.Helper()
			now := g.x.Phase()
			for _, kind := range kinds {
				wantResult(t, "an item at another time", g.item(kind, 0, api.Answer{}), machine.Result{})
				want(t, "Phase", g.x.Phase(), now)
			}
		}
		nothing(api.Ack, api.Trace, api.Remark, api.Sweep)
		g.upTo(api.Arming)
		nothing(api.Start, api.Trace, api.Remark, api.Sweep)
		g.item(api.Ack, 0, api.Answer{Val: 1})
		nothing(api.Ack)
		g.item(api.Ack, 1, api.Answer{Val: 1})
		want(t, "Phase", g.x.Phase(), api.Scanning)
		nothing(api.Start, api.Trace, api.Remark, api.Sweep)
		g.colours(nil, nil)
		g.item(api.Ack, 0, api.Answer{Val: 1})
		nothing(api.Ack, api.Trace)
		g.colours([]api.Ref{r}, nil)
		g.item(api.Ack, 1, api.Answer{Val: 1})
		// A Remark that came too soon doesn't wait.
		want(t, "Phase", g.x.Phase(), api.Marking)
		nothing(api.Start, api.Ack, api.Sweep)
		g.remark()
		nothing(api.Start, api.Ack, api.Trace, api.Remark)
		g.sweep(false)
		g.sweep(false)
		nothing(api.Start, api.Ack, api.Trace, api.Remark)
		g.sweep(true)
		nothing(api.Ack, api.Trace, api.Remark, api.Sweep)
		// Nor does one that came behind the end of marking.
		g.upTo(api.Marking)
		g.item(api.Go, 0, api.Answer{Err: api.ErrBusy})
		want(t, "Phase", g.x.Phase(), api.Marking)
	})
}

// Without threads nobody has to acknowledge.
func TestCycleWithoutThreads(t *testing.T) {
	each(t, func(t *testing.T, c api.Config) {
		g := set(t, c, 1)
		r := g.born(0, 0, 1)
		g.do(0, api.PutG, 0, 1, 0)
		g.item(api.Exit, 0, api.Answer{})
		g.item(api.Start, 0, api.Answer{Val: 1})
		want(t, "Phase", g.x.Phase(), api.Marking)
		g.colours([]api.Ref{r}, nil)
		g.remark()
		g.colours(nil, []api.Ref{r})
		g.sweep(false)
		g.sweep(false)
		g.sweep(true)
	})
}

// One that comes while others acknowledge needn't do so in that phase; for one that goes nobody waits.
func TestThreadsComeAndGoInACycle(t *testing.T) {
	g := set(t, of(api.Yuasa), 1)
	g.item(api.Start, 0, api.Answer{Val: 1})
	g.item(api.Spawn, 1, api.Answer{})
	g.item(api.Ack, 1, api.Answer{})
	g.item(api.Ack, 0, api.Answer{Val: 1})
	want(t, "Phase", g.x.Phase(), api.Scanning)
	g.item(api.Ack, 0, api.Answer{Val: 1})
	want(t, "Phase", g.x.Phase(), api.Scanning)
	g.item(api.Exit, 1, api.Answer{})
	want(t, "Phase", g.x.Phase(), api.Marking)
	g.remark()
	for range 3 {
		g.x.Do(api.Item{Kind: api.Sweep})
	}
	// One exits while the other has acknowledged twice.
	g.item(api.Spawn, 1, api.Answer{})
	g.item(api.Start, 0, api.Answer{Val: 1})
	g.item(api.Ack, 1, api.Answer{Val: 1})
	g.item(api.Exit, 0, api.Answer{})
	want(t, "Phase", g.x.Phase(), api.Scanning)
	g.item(api.Exit, 1, api.Answer{})
	want(t, "Phase", g.x.Phase(), api.Marking)
	// A Remark waits for those that live alone.
	g.item(api.Spawn, 0, api.Answer{})
	g.begin(0, api.IsNil, 0, 0, 0)
	g.item(api.Remark, 0, api.Answer{})
	g.item(api.Spawn, 1, api.Answer{})
	g.item(api.Go, 0, api.Answer{Val: 1})
	g.item(api.Exit, 1, api.Answer{})
	want(t, "Phase", g.x.Phase(), api.Marking)
	want(t, "Marked", g.item(api.Go, 0, api.Answer{}).Marked, true)
}

// Of the document's examples, the fifth.
func TestAckWhileBusy(t *testing.T) {
	each(t, func(t *testing.T, c api.Config) {
		g := set(t, c, 2)
		r := g.born(0, 0, 2)
		g.item(api.Start, 0, api.Answer{Val: 1})
		for phase := api.Arming; phase <= api.Scanning; phase++ {
			g.item(api.Ack, 1, api.Answer{Val: 1})
			g.begin(0, api.IsNil, 0, 0, 0)
			g.item(api.Ack, 0, api.Answer{})
			g.item(api.Ack, 0, api.Answer{})
			g.item(api.Go, 0, api.Answer{})
			g.item(api.Ack, 0, api.Answer{})
			want(t, "Phase", g.x.Phase(), phase)
			g.colours(nil, nil)
			wantResult(t, "the end", g.item(api.Go, 0, api.Answer{}), machine.Result{})
			want(t, "Phase", g.x.Phase(), phase+1)
		}
		g.colours([]api.Ref{r}, nil)
		// It acknowledged in that phase alone.
		g.remark()
	})
}

// What stands in the registers when the operation ends is what is shaded.
func TestLateAckSeesWhatTheOperationDid(t *testing.T) {
	c := of(api.Dijkstra)
	c.Black = false
	g := set(t, c, 2)
	old := g.born(0, 0, 0)
	g.upTo(api.Scanning)
	g.begin(0, api.Alloc, 0, 0, 0)
	g.item(api.Ack, 0, api.Answer{})
	next := g.x.Do(api.Item{Kind: api.Go}).Ref
	g.colours(nil, nil)
	g.item(api.Go, 0, api.Answer{})
	g.colours([]api.Ref{next}, nil)
	want(t, "another one", next != old, true)
}

// Of one thread's roots none is shaded by another one's acknowledgement, and none in Arming; globals are, when
// Scanning begins.
func TestWhatIsShadedWhen(t *testing.T) {
	each(t, func(t *testing.T, c api.Config) {
		g := set(t, c, 2)
		global, reg0, stack0, reg1 := g.born(0, 0, 1), g.born(0, 1, 1), g.born(0, 2, 1), g.born(1, 3, 1)
		inside := g.born(0, 3, 0)
		g.do(0, api.Store, 0, 0, 3)
		g.do(0, api.PutG, 0, 1, 0)
		g.do(0, api.Push, 2, 0, 0)
		for _, reg := range []int{0, 2, 3} {
			g.do(0, api.Clear, reg, 0, 0)
		}
		g.item(api.Start, 0, api.Answer{Val: 1})
		g.item(api.Ack, 0, api.Answer{Val: 1})
		g.colours(nil, nil)
		g.item(api.Ack, 1, api.Answer{Val: 1})
		g.colours([]api.Ref{global}, nil)
		g.item(api.Ack, 1, api.Answer{Val: 1})
		g.colours([]api.Ref{global, reg1}, nil)
		g.item(api.Ack, 0, api.Answer{Val: 1})
		g.colours([]api.Ref{global, reg0, stack0, reg1}, nil)
		// No more than Budget at a time.
		g.item(api.Trace, 0, api.Answer{Val: 2})
		g.item(api.Trace, 0, api.Answer{Val: 2})
		g.item(api.Trace, 0, api.Answer{Val: 1})
		g.item(api.Trace, 0, api.Answer{})
		g.colours(nil, []api.Ref{global, reg0, stack0, reg1, inside})
	})
}

func TestRemarkWhileBusy(t *testing.T) {
	each(t, func(t *testing.T, c api.Config) {
		g := set(t, c, 2)
		r := g.born(0, 0, 1)
		g.upTo(api.Marking)
		g.begin(0, api.IsNil, 0, 0, 0)
		g.begin(1, api.IsNil, 0, 0, 0)
		for range 2 {
			wantResult(t, "Remark", g.item(api.Remark, 0, api.Answer{}), machine.Result{})
		}
		g.item(api.Go, 0, api.Answer{})
		g.item(api.Go, 0, api.Answer{})
		g.item(api.Go, 1, api.Answer{Val: 1})
		g.item(api.Trace, 0, api.Answer{Val: 1})
		want(t, "Phase", g.x.Phase(), api.Marking)
		// It may go on working meanwhile.
		g.do(0, api.Move, 1, 0, 0)
		wantResult(t, "the last end", g.item(api.Go, 1, api.Answer{}), machine.Result{Marked: true})
		want(t, "Phase", g.x.Phase(), api.Sweeping)
		g.colours(nil, []api.Ref{r})
		g.sweep(false)
		g.sweep(false)
		g.sweep(true)
	})
}

// A Remark waits for its own cycle alone.
func TestRemarkDoesNotWaitForTheNextCycle(t *testing.T) {
	g := set(t, of(api.Steele), 2)
	g.upTo(api.Marking)
	g.begin(0, api.IsNil, 0, 0, 0)
	g.item(api.Remark, 0, api.Answer{})
	g.item(api.Go, 0, api.Answer{Val: 1})
	want(t, "Marked", g.item(api.Go, 0, api.Answer{}).Marked, true)
	for range 3 {
		g.x.Do(api.Item{Kind: api.Sweep})
	}
	g.upTo(api.Marking)
	want(t, "Marked", g.do(0, api.IsNil, 0, 0, 0).Marked, false)
	want(t, "Phase", g.x.Phase(), api.Marking)
}

// Which new objects are black.
func TestColoursOfNewObjects(t *testing.T) {
	each(t, func(t *testing.T, c api.Config) {
		g := set(t, c, 2)
		born := func(fields int, black bool) {
			t.Helper()
			r := g.born(0, 0, fields)
			want(t, "Marked", g.x.Marker().Marked(r), black)
			want(t, "Scanned", g.x.Marker().Scanned(r), black)
			g.do(0, api.Clear, 0, 0, 0)
		}
		born(0, false)
		g.item(api.Start, 0, api.Answer{Val: 1})
		born(0, false)
		g.item(api.Ack, 0, api.Answer{Val: 1})
		born(0, false)
		g.item(api.Ack, 1, api.Answer{Val: 1})
		born(1, c.Black)
		g.item(api.Ack, 0, api.Answer{Val: 1})
		born(1, c.Black)
		g.item(api.Ack, 1, api.Answer{Val: 1})
		born(1, c.Black)
		// While pages are swept, it hangs on the page alone.
		g.remark()
		born(0, true)
		born(1, true)
		born(3, true)
		g.x.Do(api.Item{Kind: api.Sweep})
		born(0, false)
		born(1, true)
		born(3, true)
		g.x.Do(api.Item{Kind: api.Sweep})
		born(1, false)
		born(3, true)
		want(t, "Done", g.x.Do(api.Item{Kind: api.Sweep}).Done, true)
		born(3, false)
	})
}

// Of the document's examples, the ninth.
func TestBornWhilePagesAreSwept(t *testing.T) {
	each(t, func(t *testing.T, c api.Config) {
		g := set(t, c, 2)
		g.upTo(api.Marking)
		g.remark()
		var stay []api.Ref
		for _, fields := range []int{0, 1, 3} {
			stay = append(stay, g.born(0, 0, fields))
		}
		g.sweep(false)
		stay = append(stay, g.born(0, 0, 0), g.born(0, 0, 1))
		g.sweep(false)
		stay = append(stay, g.born(0, 0, 3))
		g.sweep(true)
		for _, r := range stay {
			want(t, "Has", g.x.Arena().Has(r), true)
		}
		// The next one gives them back, but for the last one.
		g.upTo(api.Marking)
		g.remark()
		given := 0
		for range 3 {
			given += g.x.Do(api.Item{Kind: api.Sweep}).Val
		}
		want(t, "given back", given, len(stay)-1)
	})
}

// chain is a global that leads to one object, and that to another one, in another page.
func chain(g rig) (head, tail api.Ref) {
	g.t.Helper()
	head, tail = g.born(0, 0, 2), g.born(0, 1, 0)
	g.do(0, api.Store, 0, 0, 1)
	g.do(0, api.PutG, 0, 0, 0)
	g.do(0, api.Clear, 0, 0, 0)
	g.do(0, api.Clear, 1, 0, 0)
	return head, tail
}

// Of the document's examples, the sixth.
func TestFloating(t *testing.T) {
	each(t, func(t *testing.T, c api.Config) {
		g := set(t, c, 2)
		head, tail := chain(g)
		g.upTo(api.Marking)
		g.do(0, api.GetG, 0, 0, 0)
		g.do(0, api.Store, 0, 0, 3)
		g.remark()
		if c.Engine == api.Yuasa {
			g.colours(nil, []api.Ref{head, tail})
		} else {
			g.colours(nil, []api.Ref{head})
		}
	})
}

// Of the document's examples, the seventh: the tail is put into what is black, and taken out of its other place.
func TestHiddenInABlackOne(t *testing.T) {
	each(t, func(t *testing.T, c api.Config) {
		c.Mark, c.Budget = 8, 1
		g := set(t, c, 2)
		black := g.born(0, 0, 1)
		g.do(0, api.PutG, 0, 1, 0)
		head, tail := chain(g)
		g.upTo(api.Marking)
		// It was shaded last, and is scanned first.
		g.item(api.Trace, 0, api.Answer{Val: 1})
		g.colours([]api.Ref{head}, []api.Ref{black})
		g.ref(head, 0, api.GetG, 0, 0, 0)
		g.ref(black, 0, api.GetG, 1, 1, 0)
		g.ref(tail, 0, api.Load, 2, 0, 0)
		g.val(0, 0, api.Store, 1, 0, 2)
		g.val(0, 0, api.Store, 0, 0, 3)
		g.do(0, api.Clear, 2, 0, 0)
		g.remark()
		g.colours(nil, []api.Ref{head, tail, black})
	})
}

// A global is no object, whatever stood there: only what black objects are made to point to is counted.
func TestGlobalsAreNeverBlack(t *testing.T) {
	c := of(api.Vyb)
	c.Mark, c.Budget = 8, 1
	g := set(t, c, 2)
	black := g.born(0, 0, 1)
	g.do(0, api.PutG, 0, 1, 0)
	head, tail := chain(g)
	g.upTo(api.Marking)
	g.item(api.Trace, 0, api.Answer{Val: 1})
	g.colours([]api.Ref{head}, []api.Ref{black})
	g.do(0, api.GetG, 0, 0, 0)
	g.ref(tail, 0, api.Load, 2, 0, 0)
	g.do(0, api.PutG, 2, 1, 0)
	g.do(0, api.PutG, 3, 1, 0)
	g.do(0, api.Store, 0, 0, 3)
	g.do(0, api.Clear, 2, 0, 0)
	g.remark()
	g.colours(nil, []api.Ref{head, black})
}

// Of colours, and of what barriers kept, nothing is left when a cycle begins.
func TestStartResets(t *testing.T) {
	each(t, func(t *testing.T, c api.Config) {
		g := set(t, c, 2)
		grey, black := g.born(0, 0, 1), g.born(0, 1, 1)
		g.x.Marker().Shade(grey)
		g.x.Marker().Blacken(black)
		g.colours([]api.Ref{grey}, []api.Ref{black})
		g.upTo(api.Arming)
		g.colours(nil, nil)
		g.item(api.Ack, 0, api.Answer{Val: 1})
		g.item(api.Ack, 1, api.Answer{Val: 1})
		// One that begins none resets none.
		g.item(api.Ack, 0, api.Answer{Val: 1})
		g.item(api.Start, 0, api.Answer{})
		g.colours([]api.Ref{grey, black}, nil)
	})
}

// Of the document's examples, the eighth: a list that branches, and one place for what is grey.
func TestMarkStackOfOnePlace(t *testing.T) {
	each(t, func(t *testing.T, c api.Config) {
		c.Mark, c.Pages = 1, 8
		g := set(t, c, 2)
		var all []api.Ref
		for range 7 {
			all = append(all, g.born(0, 0, 3))
			for field := range 3 {
				g.do(0, api.Store, 0, field, 1)
				g.do(0, api.Alloc, 2, 0, 0)
				g.do(0, api.Store, 0, field/2, 2)
			}
			g.do(0, api.Store, 0, 2, 1)
			g.do(0, api.Move, 1, 0, 0)
		}
		g.do(0, api.Clear, 0, 0, 0)
		g.do(0, api.Clear, 2, 0, 0)
		g.upTo(api.Marking)
		g.remark()
		for _, r := range all {
			want(t, "Marked", g.x.Marker().Marked(r), true)
		}
		want(t, "Count", g.x.Marker().Count(), 21)
	})
}

// reached is a machine in Marking, with a global that leads to head, that to tail, which is white; thread 0 has head
// in register 0, and tail in register 1.
func reached(t *testing.T, c api.Config) (g rig, head, tail api.Ref) {
	t.Helper()
	g = set(t, c, 2)
	head, tail = chain(g)
	g.upTo(api.Marking)
	g.do(0, api.GetG, 0, 0, 0)
	g.do(0, api.Load, 1, 0, 0)
	g.colours([]api.Ref{head}, nil)
	return g, head, tail
}

// Yuasa's barrier is told ahead of a write, the others when the operation ends.
func TestWhenBarriersAreTold(t *testing.T) {
	each(t, func(t *testing.T, c api.Config) {
		for _, global := range []bool{false, true} {
			g, head, tail := reached(t, c)
			// The tail is written where it stands already.
			code, a, b, reg := api.Store, 0, 0, 1
			if global {
				g.do(0, api.Clear, 2, 0, 0)
				g.do(0, api.PutG, 2, 1, 0)
				code, a, b, reg = api.PutG, 1, 1, 1
			}
			parts := [3][]api.Ref{{head}, {head}, {head}}
			switch {
			case c.Engine == api.Yuasa && !global:
				parts = [3][]api.Ref{{head, tail}, {head, tail}, {head, tail}}
			case c.Engine == api.Dijkstra:
				parts[2] = []api.Ref{head, tail}
			}
			g.begin(0, code, a, b, reg)
			g.colours(parts[0], nil)
			g.item(api.Go, 0, api.Answer{})
			g.colours(parts[1], nil)
			g.item(api.Go, 0, api.Answer{})
			g.colours(parts[2], nil)
		}
	})
}

// An operation that writes nothing is none of the barrier's.
func TestNoBarrierWithoutAWrite(t *testing.T) {
	each(t, func(t *testing.T, c api.Config) {
		for _, i := range []api.Item{
			{Code: api.Store, A: 0, B: 0, C: 4},
			{Code: api.Store, A: 0, B: 0, C: -1},
			{Code: api.Store, A: 4, B: 0, C: 1},
			{Code: api.Store, A: 3, B: 0, C: 1},
			{Code: api.Store, A: 0, B: 2, C: 1},
			{Code: api.Store, A: 0, B: -1, C: 1},
			{Code: api.PutG, A: 1, B: 2},
			{Code: api.PutG, A: 4, B: 0},
			{Code: api.Load, A: 0, B: 0, C: 0},
			{Code: api.GetG, A: 0, B: 0},
			{Code: api.Move, A: 2, B: 1},
			{Code: api.StoreS, A: 0, B: 1},
			{Code: api.Push, A: 1},
		} {
			g, head, _ := reached(t, c)
			g.do(0, i.Code, i.A, i.B, i.C)
			g.colours([]api.Ref{head}, nil)
		}
	})
}

// What is taken away is what stood there when the write was done, whatever stood there when it began.
func TestOldIsOfTheWrite(t *testing.T) {
	g := set(t, of(api.Yuasa), 2)
	other := g.born(0, 2, 0)
	g.do(0, api.PutG, 2, 1, 0)
	third := g.born(0, 2, 1)
	g.do(0, api.GetG, 3, 1, 0)
	g.do(0, api.Store, 2, 0, 3)
	g.do(0, api.Clear, 3, 0, 0)
	g.do(0, api.PutG, 3, 1, 0)
	head, tail := chain(g)
	g.do(0, api.GetG, 0, 0, 0)
	g.do(0, api.Store, 0, 1, 2)
	g.do(0, api.Clear, 0, 0, 0)
	g.do(0, api.Clear, 2, 0, 0)
	g.upTo(api.Marking)
	g.colours([]api.Ref{head}, nil)
	// Thread 1 is to write nil where the tail stands; thread 0 writes another one there meanwhile.
	g.do(1, api.GetG, 0, 0, 0)
	g.begin(1, api.Store, 0, 0, 3)
	g.colours([]api.Ref{head, tail}, nil)
	g.do(0, api.GetG, 0, 0, 0)
	g.ref(third, 0, api.Load, 2, 0, 1)
	g.ref(other, 0, api.Load, 2, 2, 0)
	g.do(0, api.Store, 0, 0, 2)
	g.colours([]api.Ref{head, tail}, nil)
	g.item(api.Go, 1, api.Answer{})
	g.colours([]api.Ref{head, tail}, nil)
	g.item(api.Go, 1, api.Answer{})
	g.colours([]api.Ref{head, tail, other}, nil)
}

// A thread's writes are told from when it is armed on; early on Yuasa shades what is written, too.
func TestArmed(t *testing.T) {
	each(t, func(t *testing.T, c api.Config) {
		shades := c.Engine == api.Dijkstra || c.Engine == api.Yuasa
		// In Arming, ahead of its Ack, with one that waits, and behind it.
		for asked := range 3 {
			g := set(t, c, 2)
			r := g.born(0, 0, 0)
			g.item(api.Start, 0, api.Answer{Val: 1})
			if asked == 2 {
				g.item(api.Ack, 0, api.Answer{Val: 1})
			}
			g.begin(0, api.PutG, 0, 0, 0)
			if asked == 1 {
				g.item(api.Ack, 0, api.Answer{})
			}
			g.item(api.Go, 0, api.Answer{})
			g.item(api.Go, 0, api.Answer{})
			if shades && asked == 2 {
				g.colours([]api.Ref{r}, nil)
			} else {
				g.colours(nil, nil)
			}
		}
		// In Scanning; and with an operation that begins there, and ends in Marking.
		for _, ends := range []int{api.Scanning, api.Marking} {
			g := set(t, c, 2)
			head, tail := chain(g)
			g.upTo(api.Scanning)
			g.item(api.Ack, 0, api.Answer{Val: 1})
			g.do(0, api.GetG, 0, 0, 0)
			g.do(0, api.Load, 1, 0, 0)
			g.begin(0, api.PutG, 1, 1, 0)
			if ends == api.Marking {
				g.item(api.Ack, 1, api.Answer{Val: 1})
			}
			want(t, "Phase", g.x.Phase(), ends)
			g.item(api.Go, 0, api.Answer{})
			g.colours([]api.Ref{head}, nil)
			g.item(api.Go, 0, api.Answer{})
			if shades {
				g.colours([]api.Ref{head, tail}, nil)
			} else {
				g.colours([]api.Ref{head}, nil)
			}
		}
		// One that came while others acknowledged is armed; behind the end of marking none is.
		g, head, tail := reached(t, c)
		g.item(api.Exit, 1, api.Answer{})
		g.item(api.Spawn, 1, api.Answer{})
		g.do(1, api.GetG, 1, 0, 0)
		g.do(1, api.Load, 2, 1, 0)
		g.do(1, api.PutG, 2, 1, 0)
		if c.Engine == api.Dijkstra {
			g.colours([]api.Ref{head, tail}, nil)
		} else {
			g.colours([]api.Ref{head}, nil)
		}
		g.remark()
		g.sweep(false)
		g.sweep(false)
		g.do(1, api.PutG, 2, 1, 0)
		g.colours(nil, nil)
	})
}

// P4: whatever threads do meanwhile, and whatever Ack and Remark come too soon.
func TestFairness(t *testing.T) {
	each(t, func(t *testing.T, c api.Config) {
		for seed := range int64(20) {
			rnd := rand.New(rand.NewSource(seed))
			m := newModel(t, c)
			for range c.Threads {
				m.step(api.Item{Kind: api.Spawn, T: rnd.Intn(c.Threads)})
			}
			for range 10 {
				m.cycle(rnd)
			}
		}
	})
}

// cycle is a whole one.
func (m *model) cycle(rnd *rand.Rand) {
	m.t.Helper()
	m.work(rnd, 60)
	want(m.t, "Began", m.step(api.Item{Kind: api.Start}).Began, true)
	for range 2 {
		for _, th := range rnd.Perm(m.c.Threads) {
			if m.lives(th) == nil {
				continue
			}
			m.work(rnd, 10)
			m.rest(th)
			m.step(api.Item{Kind: api.Ack, T: th})
		}
	}
	m.work(rnd, 20)
	for th := range m.c.Threads {
		m.rest(th)
	}
	m.step(api.Item{Kind: api.Remark})
	for range m.c.Pages {
		m.work(rnd, 10)
		m.step(api.Item{Kind: api.Sweep})
	}
	want(m.t, "Phase", m.x.Phase(), api.Idle)
}

// work is some operations of threads; an Ack or a Remark among them comes too soon, or does no harm.
func (m *model) work(rnd *rand.Rand, items int) {
	m.t.Helper()
	for range items {
		i := someItem(rnd, m.c)
		switch {
		case i.Kind == api.Do, i.Kind == api.Go:
			m.step(i)
		case i.Kind == api.Remark && m.phase < api.Marking:
			m.step(i)
		case i.Kind == api.Ack && m.phase == api.Idle:
			m.step(i)
		}
	}
}

// rest lets a thread's operation end.
func (m *model) rest(th int) {
	m.t.Helper()
	for w := m.lives(th); w != nil && w.at != 0; {
		m.step(api.Item{Kind: api.Go, T: th})
	}
}

// What two machines do is none of the other's business, and what a Sweep answered is its caller's own.
func TestMachinesApart(t *testing.T) {
	a, b := set(t, of(api.Vyb), 2), set(t, of(api.Vyb), 1)
	lost := a.born(0, 0, 0)
	a.do(0, api.Clear, 0, 0, 0)
	want(t, "Has", b.x.Arena().Has(lost), false)
	a.upTo(api.Marking)
	want(t, "Phase", b.x.Phase(), api.Idle)
	a.remark()
	r := a.item(api.Sweep, 0, api.Answer{Val: 1})
	wantList(t, "Freed", r.Freed, lost)
	again := a.born(0, 0, 0)
	want(t, "where it lies", again, lost)
	r.Freed[0] = 7
	a.sweep(false)
	a.sweep(true)
	want(t, "Has", a.x.Arena().Has(again), true)
	b.reg(0, 0, 0)
}
