package phase_test

import (
	"math"
	"math/rand"
	"slices"
	"strconv"
	"testing"

	"hawthorn/api"
	"hawthorn/phase"
)

// What the document says in numbers.
const idle, arming, scanning, marking, sweeping = 0, 1, 2, 3, 4
const maxThreads = 4

// Numbers that no thread has; far ones, as a part of them may look like one.
var noThreads = []int{
	-1, -2, -4, -5, -1 << 32, -1<<32 + 1, math.MinInt, math.MinInt + 1,
	maxThreads, maxThreads + 1, 8, 63, 64, 256, 1 << 32, 1<<32 + 1, math.MaxInt - 1, math.MaxInt,
}

// phases are the names of the five, by their numbers.
var phases = []string{idle: "Idle", arming: "Arming", scanning: "Scanning", marking: "Marking", sweeping: "Sweeping"}

func want[T comparable](t *testing.T, what string, got, want T) {
	t.Helper()
	if got != want {
		t.Fatalf("%s: %v, want %v", what, got, want)
	}
}

func upTo(n int) []int {
	var l []int
	for i := range n {
		l = append(l, i)
	}
	return l
}

// each runs a test for each phase.
func each(t *testing.T, do func(t *testing.T, now int)) {
	for now, name := range phases {
		t.Run(name, func(t *testing.T) { do(t, now) })
	}
}

// at is phases that have come, for the first time, to one of them, while these threads live. In Arming and in
// Scanning none of them has acknowledged.
func at(t *testing.T, now int, alive ...int) *phase.Machine {
	t.Helper()
	p := phase.New()
	join(p, alive...)
	goTo(t, p, now, alive...)
	return p
}

// goTo goes from Idle to a phase, while these threads live.
func goTo(t *testing.T, p *phase.Machine, now int, alive ...int) {
	t.Helper()
	want(t, "Now", p.Now(), idle)
	if now >= arming {
		want(t, "Begin", p.Begin(), true)
	}
	if now >= scanning {
		shake(t, p, alive...)
	}
	if now >= marking {
		shake(t, p, alive...)
	}
	if now >= sweeping {
		want(t, "Marked", p.Marked(), true)
	}
	want(t, "Now", p.Now(), now)
}

// shake lets these acknowledge, and the next phase come.
func shake(t *testing.T, p *phase.Machine, numbers ...int) {
	t.Helper()
	ack(t, p, numbers...)
	want(t, "Advance", p.Advance(), true)
}

func join(p *phase.Machine, numbers ...int) {
	for _, i := range numbers {
		p.Join(i)
	}
}

func leave(p *phase.Machine, numbers ...int) {
	for _, i := range numbers {
		p.Leave(i)
	}
}

func ack(t *testing.T, p *phase.Machine, numbers ...int) {
	t.Helper()
	for _, i := range numbers {
		want(t, "Ack of "+strconv.Itoa(i), p.Ack(i), true)
	}
}

// wantThreads: just these are armed, and just these want to acknowledge.
func wantThreads(t *testing.T, p *phase.Machine, armed, wanting []int) {
	t.Helper()
	for i := range maxThreads {
		if p.Armed(i) != slices.Contains(armed, i) || p.Wants(i) != slices.Contains(wanting, i) {
			t.Fatalf("thread %d: armed %v, wants %v; armed are %v, wanting %v", i, p.Armed(i), p.Wants(i), armed, wanting)
		}
	}
}

func numbers(l ...int) []int { return l }

func TestThePhasesHaveTheirNumbers(t *testing.T) {
	want(t, "Idle", api.Idle, idle)
	want(t, "Arming", api.Arming, arming)
	want(t, "Scanning", api.Scanning, scanning)
	want(t, "Marking", api.Marking, marking)
	want(t, "Sweeping", api.Sweeping, sweeping)
	want(t, "MaxThreads", api.MaxThreads, maxThreads)
}

func TestNewIsIdle(t *testing.T) {
	p := phase.New()
	want(t, "Now", p.Now(), idle)
	want(t, "Rounds", p.Rounds(), 0)
	wantThreads(t, p, nil, nil)
}

// None lives in a new one: nobody is waited for.
func TestWithoutThreadsTheWayToMarkingIsFree(t *testing.T) {
	p := phase.New()
	want(t, "Begin", p.Begin(), true)
	wantThreads(t, p, nil, nil)
	want(t, "Now", p.Now(), arming)
	want(t, "Advance", p.Advance(), true)
	want(t, "Now", p.Now(), scanning)
	want(t, "Advance", p.Advance(), true)
	want(t, "Now", p.Now(), marking)
	want(t, "Rounds", p.Rounds(), 2)
}

func TestAWholeCycle(t *testing.T) {
	p := phase.New()
	join(p, 0, 3)
	wantThreads(t, p, nil, nil)
	want(t, "Begin", p.Begin(), true)
	want(t, "Now", p.Now(), arming)
	wantThreads(t, p, nil, numbers(0, 3))
	ack(t, p, 3)
	wantThreads(t, p, numbers(3), numbers(0))
	ack(t, p, 0)
	wantThreads(t, p, numbers(0, 3), nil)
	want(t, "Advance", p.Advance(), true)
	want(t, "Now", p.Now(), scanning)
	wantThreads(t, p, numbers(0, 3), numbers(0, 3))
	ack(t, p, 0)
	wantThreads(t, p, numbers(0, 3), numbers(3))
	ack(t, p, 3)
	wantThreads(t, p, numbers(0, 3), nil)
	want(t, "Advance", p.Advance(), true)
	want(t, "Now", p.Now(), marking)
	wantThreads(t, p, numbers(0, 3), nil)
	want(t, "Marked", p.Marked(), true)
	want(t, "Now", p.Now(), sweeping)
	wantThreads(t, p, nil, nil)
	want(t, "Swept", p.Swept(), true)
	want(t, "Now", p.Now(), idle)
	wantThreads(t, p, nil, nil)
}

// The calls that go on to another phase do so from their own alone; from others they change nothing.
func TestEachStepIsTakenFromItsPhaseAlone(t *testing.T) {
	steps := []struct {
		name string
		do   func(p *phase.Machine) bool
		from []int
	}{
		{"Begin", (*phase.Machine).Begin, numbers(idle)},
		{"Advance", (*phase.Machine).Advance, numbers(arming, scanning)},
		{"Marked", (*phase.Machine).Marked, numbers(marking)},
		{"Swept", (*phase.Machine).Swept, numbers(sweeping)},
	}
	each(t, func(t *testing.T, now int) {
		for _, step := range steps {
			p := at(t, now, 1)
			if now == arming || now == scanning {
				ack(t, p, 1)
			}
			armed, rounds := p.Armed(1), p.Rounds()
			ok := slices.Contains(step.from, now)
			want(t, step.name, step.do(p), ok)
			if ok {
				want(t, step.name+": Now", p.Now(), (now+1)%len(phases))
				continue
			}
			want(t, step.name+": Now", p.Now(), now)
			want(t, step.name+": Rounds", p.Rounds(), rounds)
			want(t, step.name+": Armed", p.Armed(1), armed)
			want(t, step.name+": Wants", p.Wants(1), false)
		}
	})
}

// A Begin that comes too soon doesn't ask those again that have acknowledged.
func TestBeginWithinACycleForgetsNothing(t *testing.T) {
	for _, now := range numbers(arming, scanning) {
		p := at(t, now, 0, 1)
		ack(t, p, 1)
		want(t, "Begin", p.Begin(), false)
		want(t, "Wants 0", p.Wants(0), true)
		want(t, "Wants 1", p.Wants(1), false)
		want(t, "Armed 1", p.Armed(1), true)
	}
}

func TestWantsInArmingAndScanningAlone(t *testing.T) {
	each(t, func(t *testing.T, now int) {
		p := at(t, now, 0, 2)
		for i := range maxThreads {
			asked := now == arming || now == scanning
			want(t, "Wants", p.Wants(i), asked && (i == 0 || i == 2))
		}
	})
}

// Each has to acknowledge once, in both.
func TestAckOfOneThatWants(t *testing.T) {
	for _, now := range numbers(arming, scanning) {
		for i := range maxThreads {
			p := at(t, now, upTo(maxThreads)...)
			ack(t, p, i)
			for other := range maxThreads {
				want(t, "Wants", p.Wants(other), other != i)
				want(t, "Armed", p.Armed(other), now == scanning || other == i)
			}
			want(t, "Ack again", p.Ack(i), false)
			want(t, "Wants", p.Wants(i), false)
			want(t, "Armed", p.Armed(i), true)
			want(t, "Now", p.Now(), now)
		}
	}
}

func TestAckOfOneThatDoesntWant(t *testing.T) {
	for _, now := range numbers(idle, marking, sweeping) {
		p := at(t, now, 0)
		want(t, "Ack", p.Ack(0), false)
		want(t, "Armed", p.Armed(0), now == marking)
		want(t, "Now", p.Now(), now)
	}
	// An Ack ahead of a cycle doesn't count in it.
	p := at(t, idle, 0)
	want(t, "Ack", p.Ack(0), false)
	want(t, "Begin", p.Begin(), true)
	want(t, "Wants", p.Wants(0), true)
}

func TestAckOfOneThatDoesntLive(t *testing.T) {
	each(t, func(t *testing.T, now int) {
		p := at(t, now, 0)
		want(t, "Ack", p.Ack(1), false)
		want(t, "Armed", p.Armed(1), false)
		want(t, "Wants", p.Wants(1), false)
		// Nor has it acknowledged ahead of its life.
		p = phase.New()
		want(t, "Ack", p.Ack(1), false)
		join(p, 1)
		goTo(t, p, arming)
		want(t, "Wants", p.Wants(1), true)
	})
}

// One that is still to acknowledge holds all up.
func TestAdvanceWaitsForEach(t *testing.T) {
	for _, now := range numbers(arming, scanning) {
		for last := range maxThreads {
			p := at(t, now, upTo(maxThreads)...)
			want(t, "Advance", p.Advance(), false)
			for i := range maxThreads {
				if i != last {
					ack(t, p, i)
					want(t, "Advance", p.Advance(), false)
					want(t, "Now", p.Now(), now)
					want(t, "Rounds", p.Rounds(), now-1)
				}
			}
			ack(t, p, last)
			want(t, "Advance", p.Advance(), true)
			want(t, "Now", p.Now(), now+1)
			want(t, "Rounds", p.Rounds(), now)
		}
	}
}

// It leads one phase on, not more, even where the next one would wait for nobody.
func TestAdvanceLeadsToTheNextPhase(t *testing.T) {
	p := at(t, arming, 0)
	p.Leave(0)
	want(t, "Advance", p.Advance(), true)
	want(t, "Now", p.Now(), scanning)
	want(t, "Rounds", p.Rounds(), 1)
	want(t, "Advance", p.Advance(), true)
	want(t, "Now", p.Now(), marking)
	want(t, "Rounds", p.Rounds(), 2)
	want(t, "Advance", p.Advance(), false)
	want(t, "Now", p.Now(), marking)
	want(t, "Rounds", p.Rounds(), 2)
}

// Those that joined have acknowledged in that phase, not in the next one.
func TestJoinInEachPhase(t *testing.T) {
	each(t, func(t *testing.T, now int) {
		p := at(t, now, 0)
		armed := p.Armed(0)
		p.Join(2)
		want(t, "Armed 2", p.Armed(2), now == arming || now == scanning || now == marking)
		want(t, "Wants 2", p.Wants(2), false)
		want(t, "Ack 2", p.Ack(2), false)
		want(t, "Armed 0", p.Armed(0), armed)
		want(t, "Wants 0", p.Wants(0), now == arming || now == scanning)
		want(t, "Now", p.Now(), now)
	})
}

func TestOneThatJoinedInArmingIsAskedInScanning(t *testing.T) {
	p := at(t, arming, 0)
	p.Join(1)
	shake(t, p, 0)
	wantThreads(t, p, numbers(0, 1), numbers(0, 1))
	ack(t, p, 0)
	want(t, "Advance", p.Advance(), false)
	shake(t, p, 1)
	want(t, "Now", p.Now(), marking)
}

// Those that joined while none was asked, or had acknowledged then, are asked in the next cycle.
func TestWhoeverLivesIsAskedInTheNextCycle(t *testing.T) {
	each(t, func(t *testing.T, now int) {
		p := at(t, now, 0)
		p.Join(2)
		if now == arming {
			shake(t, p, 0)
			shake(t, p, 0, 2)
		}
		if now == scanning {
			shake(t, p, 0)
		}
		if now != idle {
			want(t, "Marked", p.Marked(), now != sweeping)
			want(t, "Swept", p.Swept(), true)
		}
		wantThreads(t, p, nil, nil)
		want(t, "Begin", p.Begin(), true)
		wantThreads(t, p, nil, numbers(0, 2))
		want(t, "Advance", p.Advance(), false)
		shake(t, p, 0, 2)
		wantThreads(t, p, numbers(0, 2), numbers(0, 2))
	})
}

// One that lives and joins is as it was: it isn't armed by that, nor need it not acknowledge.
func TestJoinOfOneThatLives(t *testing.T) {
	each(t, func(t *testing.T, now int) {
		p := at(t, now, 0, 1)
		asked := now == arming || now == scanning
		if asked {
			ack(t, p, 1)
		}
		for i := range 2 {
			armed, wants := p.Armed(i), p.Wants(i)
			p.Join(i)
			want(t, "Armed", p.Armed(i), armed)
			want(t, "Wants", p.Wants(i), wants)
		}
		want(t, "Wants 0", p.Wants(0), asked)
		want(t, "Armed 0", p.Armed(0), now == scanning || now == marking)
	})
}

func TestLeaveInEachPhase(t *testing.T) {
	each(t, func(t *testing.T, now int) {
		p := at(t, now, 0, 2)
		armed, wants := p.Armed(0), p.Wants(0)
		for range 2 {
			p.Leave(2)
			want(t, "Armed 2", p.Armed(2), false)
			want(t, "Wants 2", p.Wants(2), false)
			want(t, "Ack 2", p.Ack(2), false)
			want(t, "Armed 0", p.Armed(0), armed)
			want(t, "Wants 0", p.Wants(0), wants)
			want(t, "Now", p.Now(), now)
		}
	})
}

// Nobody waits for one that is gone, whether it had acknowledged or not.
func TestOneThatLeavesIsntWaitedFor(t *testing.T) {
	for _, now := range numbers(arming, scanning) {
		for _, first := range [][]int{nil, {1}} {
			p := at(t, now, 0, 1)
			ack(t, p, first...)
			ack(t, p, 0)
			p.Leave(1)
			want(t, "Now", p.Now(), now)
			want(t, "Advance", p.Advance(), true)
			want(t, "Armed 1", p.Armed(1), false)
			want(t, "Wants 1", p.Wants(1), false)
		}
	}
}

// One that comes back is a new one.
func TestOneThatComesBack(t *testing.T) {
	each(t, func(t *testing.T, now int) {
		p := at(t, now, 1)
		p.Leave(1)
		p.Join(1)
		want(t, "Armed", p.Armed(1), now == arming || now == scanning || now == marking)
		want(t, "Wants", p.Wants(1), false)
		want(t, "Advance", p.Advance(), now == arming || now == scanning)
	})
	// Nothing of an earlier life is left over: it was armed, and had acknowledged.
	p := at(t, arming, 1)
	ack(t, p, 1)
	p.Leave(1)
	goOn(t, p)
	p.Join(1)
	want(t, "Armed", p.Armed(1), false)
	want(t, "Begin", p.Begin(), true)
	wantThreads(t, p, nil, numbers(1))
}

// goOn goes from Arming to Idle, while none lives.
func goOn(t *testing.T, p *phase.Machine) {
	t.Helper()
	shake(t, p)
	shake(t, p)
	want(t, "Marked", p.Marked(), true)
	want(t, "Swept", p.Swept(), true)
}

func TestMarkedDisarmsAll(t *testing.T) {
	p := at(t, marking, 0, 1, 2)
	p.Join(3)
	wantThreads(t, p, upTo(maxThreads), nil)
	want(t, "Swept", p.Swept(), false)
	want(t, "Marked", p.Marked(), true)
	wantThreads(t, p, nil, nil)
	want(t, "Marked", p.Marked(), false)
	want(t, "Swept", p.Swept(), true)
	want(t, "Swept", p.Swept(), false)
	wantThreads(t, p, nil, nil)
}

// Rounds goes on from cycle to cycle, and what answers false isn't counted.
func TestRoundsCountsWhatAdvanced(t *testing.T) {
	p := phase.New()
	join(p, 0, 1)
	for cycle := range 50 {
		want(t, "Advance", p.Advance(), false)
		goTo(t, p, arming)
		want(t, "Advance", p.Advance(), false)
		want(t, "Rounds", p.Rounds(), 2*cycle)
		shake(t, p, 0, 1)
		want(t, "Rounds", p.Rounds(), 2*cycle+1)
		want(t, "Advance", p.Advance(), false)
		shake(t, p, 1, 0)
		want(t, "Rounds", p.Rounds(), 2*cycle+2)
		want(t, "Advance", p.Advance(), false)
		want(t, "Marked", p.Marked(), true)
		want(t, "Advance", p.Advance(), false)
		want(t, "Swept", p.Swept(), true)
		want(t, "Rounds", p.Rounds(), 2*cycle+2)
	}
}

// Nothing is said of them but that no call panics; those that there are must not be touched by it.
func TestNumbersThatNoThreadHas(t *testing.T) {
	each(t, func(t *testing.T, now int) {
		for _, i := range noThreads {
			p := at(t, now, 0, 3)
			armed, wanting := asIs(p)
			p.Join(i)
			want(t, "Armed", p.Armed(i), false)
			want(t, "Wants", p.Wants(i), false)
			want(t, "Ack", p.Ack(i), false)
			p.Leave(i)
			wantThreads(t, p, armed, wanting)
			want(t, "Now", p.Now(), now)
			if len(wanting) > 0 {
				shake(t, p, wanting...)
			}
		}
	})
}

// asIs is who is armed, and who wants to acknowledge.
func asIs(p *phase.Machine) (armed, wanting []int) {
	for i := range maxThreads {
		if p.Armed(i) {
			armed = append(armed, i)
		}
		if p.Wants(i) {
			wanting = append(wanting, i)
		}
	}
	return armed, wanting
}

func TestEachMachineIsItsOwn(t *testing.T) {
	p, q := phase.New(), phase.New()
	join(p, 0)
	want(t, "Begin", p.Begin(), true)
	want(t, "Now", q.Now(), idle)
	want(t, "Begin", q.Begin(), true)
	wantThreads(t, q, nil, nil)
	want(t, "Advance", q.Advance(), true)
	want(t, "Now", p.Now(), arming)
	want(t, "Rounds", p.Rounds(), 0)
	wantThreads(t, p, nil, numbers(0))
}

// Asking changes nothing, however often.
func TestAskingChangesNothing(t *testing.T) {
	each(t, func(t *testing.T, now int) {
		p := at(t, now, 0, 1)
		armed, wanting := asIs(p)
		rounds := p.Rounds()
		for range 3 {
			wantThreads(t, p, armed, wanting)
			want(t, "Now", p.Now(), now)
			want(t, "Rounds", p.Rounds(), rounds)
		}
	})
}

// A model is the chapter's words over again, threads as bits: who lives, who is armed, who has acknowledged in
// this phase.
type model struct {
	now                uint8
	alive, armed, told uint8
}

func (m model) asks() bool { return m.now == arming || m.now == scanning }

func (m model) wanting() uint8 {
	if !m.asks() {
		return 0
	}
	return m.alive &^ m.told
}

// enter is the model in another phase, in which none has acknowledged.
func (m model) enter(now uint8) model {
	m.now, m.told = now, 0
	return m
}

// A call is one of those that may change something; those of threads have a number.
type call struct {
	name string
	t    int
}

func (c call) String() string { return c.name + " " + strconv.Itoa(c.t) }

func calls() []call {
	l := []call{{"Begin", 0}, {"Advance", 0}, {"Marked", 0}, {"Swept", 0}}
	for i := range maxThreads {
		l = append(l, call{"Ack", i}, call{"Join", i}, call{"Leave", i})
	}
	return l
}

// do makes the call; one without an answer answers false.
func (c call) do(p *phase.Machine) bool {
	switch c.name {
	case "Begin":
		return p.Begin()
	case "Advance":
		return p.Advance()
	case "Marked":
		return p.Marked()
	case "Swept":
		return p.Swept()
	case "Ack":
		return p.Ack(c.t)
	case "Join":
		p.Join(c.t)
	case "Leave":
		p.Leave(c.t)
	}
	return false
}

// then is the model behind a call, and what that answers.
func (m model) then(c call) (model, bool) {
	bit := uint8(1) << c.t
	switch {
	case c.name == "Begin" && m.now == idle:
		return m.enter(arming), true
	case c.name == "Advance" && m.asks() && m.wanting() == 0:
		return m.enter(m.now + 1), true
	case c.name == "Marked" && m.now == marking:
		m.armed = 0
		return m.enter(sweeping), true
	case c.name == "Swept" && m.now == sweeping:
		return m.enter(idle), true
	case c.name == "Ack" && m.wanting()&bit != 0:
		m.told |= bit
		if m.now == arming {
			m.armed |= bit
		}
		return m, true
	case c.name == "Join" && m.alive&bit == 0:
		m.alive |= bit
		if m.now == arming || m.now == scanning || m.now == marking {
			m.armed |= bit
			m.told |= bit
		}
	case c.name == "Leave":
		m.alive &^= bit
		m.armed &^= bit
		m.told &^= bit
	}
	return m, false
}

// wantModel: the phases answer as the model says, and P17.2 holds of them.
func wantModel(t *testing.T, path []call, p *phase.Machine, m model, rounds int) {
	t.Helper()
	ok := p.Now() == int(m.now) && p.Rounds() == rounds
	for i := range maxThreads {
		bit := uint8(1) << i
		ok = ok && p.Armed(i) == (m.armed&bit != 0) && p.Wants(i) == (m.wanting()&bit != 0)
		if lives := m.alive&bit != 0; lives && (p.Now() == scanning || p.Now() == marking) && !p.Armed(i) {
			t.Fatalf("%v: thread %d lives, and isn't armed in %s", path, i, phases[p.Now()])
		}
	}
	if !ok {
		t.Fatalf("%v: not as the chapter says: %+v, %d rounds", path, m, rounds)
	}
}

// replay makes these calls on new phases, and holds what they answer to the model.
func replay(t *testing.T, path []call) (*phase.Machine, model, int) {
	t.Helper()
	p, m, rounds := phase.New(), model{}, 0
	for _, c := range path {
		next, ok := m.then(c)
		if c.do(p) != ok {
			t.Fatalf("%v: %v doesn't answer %v", path, c, ok)
		}
		if ok && c.name == "Advance" {
			rounds++
		}
		m = next
	}
	return p, m, rounds
}

// Each call is made from wherever calls may lead to.
func TestEachCallFromEachState(t *testing.T) {
	seen := map[model]bool{{}: true}
	for paths := [][]call{nil}; len(paths) > 0; paths = paths[1:] {
		for _, c := range calls() {
			path := append(slices.Clone(paths[0]), c)
			p, m, rounds := replay(t, path)
			wantModel(t, path, p, m, rounds)
			if !seen[m] {
				seen[m] = true
				paths = append(paths, path)
			}
		}
	}
	// Each thread lives or not; of those that live, each is armed or not in Arming, has acknowledged or not in
	// Scanning, and has joined or not in Marking.
	want(t, "states", len(seen), 16+81+81+81+16)
}

// Long runs, as what is kept may outlast the shortest ways.
func TestLongRuns(t *testing.T) {
	all := calls()
	for seed := range int64(60) {
		random := rand.New(rand.NewSource(seed))
		p, m, rounds := phase.New(), model{}, 0
		for step := range 3000 {
			c := all[random.Intn(len(all))]
			next, ok := m.then(c)
			want(t, "seed "+strconv.FormatInt(seed, 10)+", step "+strconv.Itoa(step)+": "+c.String(), c.do(p), ok)
			if ok && c.name == "Advance" {
				rounds++
			}
			m = next
			wantModel(t, []call{c}, p, m, rounds)
		}
		if rounds < 20 {
			t.Fatalf("seed %d: only %d rounds", seed, rounds)
		}
	}
}
