package machine_test

import (
	"math/rand"
	"slices"
	"strconv"
	"testing"

	"hawthorn/api"
	"hawthorn/cell"
	"hawthorn/config"
	"hawthorn/machine"
)

type refs = []api.Ref

// A worker is a thread as the model has it.
type worker struct {
	lives, armed, acked, asked bool
	at                         int // 0: idle, 1: its operation has begun, 2: it is done
	item                       api.Item
	wasArmed, wrote            bool
	write                      api.Write
	regs, stack                refs
}

// An object is one as the model has it.
type object struct {
	fields refs
	number int
}

// A model is what a machine should be. Where a new object lies, and which objects a Trace scans, it is told by the
// machine, and holds to what may be.
type model struct {
	t       *testing.T
	c       api.Config
	x       *machine.Machine
	phase   int
	workers [api.MaxThreads]worker
	globals refs
	objects map[api.Ref]*object
	marked  map[api.Ref]bool
	scanned map[api.Ref]bool
	may     map[api.Ref]bool // what could be reached when the cycle began, and what was born since
	remark  bool
	next    int // the page that is swept next
	dirty   map[int]bool
	count   map[api.Ref]int
	log     refs
	over    bool
	seen    map[string]int
}

func newModel(t *testing.T, c api.Config) *model {
	t.Helper()
	x, e := machine.New(c)
	want(t, "New", e, api.OK)
	return &model{
		t: t, c: c, x: x,
		globals: make(refs, c.Globals),
		objects: map[api.Ref]*object{},
		marked:  map[api.Ref]bool{},
		scanned: map[api.Ref]bool{},
		may:     map[api.Ref]bool{},
		dirty:   map[int]bool{},
		count:   map[api.Ref]int{},
		seen:    map[string]int{},
	}
}

func pageOf(r api.Ref) int { return int(r-1) / api.PageWords }

// words is how long the cell of an object of so many fields is.
func words(fields int) int {
	switch {
	case fields == 0:
		return 2
	case fields <= 2:
		return 4
	}
	return 8
}

// room: has a page room for an object of so many fields?
func (m *model) room(fields int) bool {
	for page := range m.c.Pages {
		taken, long := 0, words(fields)
		for r, o := range m.objects {
			if pageOf(r) == page {
				taken, long = taken+1, words(len(o.fields))
			}
		}
		if long == words(fields) && taken < api.PageWords/long {
			return true
		}
	}
	return false
}

// reach is what some objects lead to.
func (m *model) reach(from refs) map[api.Ref]bool {
	got := map[api.Ref]bool{}
	for from := slices.Clone(from); len(from) > 0; {
		r := from[0]
		from = from[1:]
		if r != 0 && !got[r] {
			got[r] = true
			from = append(from, m.objects[r].fields...)
		}
	}
	return got
}

// notNil is those that aren't 0.
func notNil(l ...api.Ref) refs {
	return slices.DeleteFunc(slices.Clone(l), func(r api.Ref) bool { return r == 0 })
}

func (m *model) roots() refs {
	l := notNil(m.globals...)
	for _, w := range m.workers {
		if w.lives {
			l = append(append(l, notNil(w.regs...)...), notNil(w.stack...)...)
		}
	}
	return l
}

func (m *model) allIdle() bool {
	for _, w := range m.workers {
		if w.lives && w.at != 0 {
			return false
		}
	}
	return true
}

func (m *model) shade(l ...api.Ref) {
	for _, r := range l {
		if r != 0 {
			m.marked[r] = true
		}
	}
}

// step does an item, and holds what it answers, and all that came of it, to what the chapter says.
func (m *model) step(i api.Item) machine.Result {
	m.t.Helper()
	got := m.x.Do(i)
	w := m.item(i, got)
	w.Marked = m.settle()
	what := "item " + strconv.Itoa(i.Kind) + " of thread " + strconv.Itoa(i.T)
	wantResult(m.t, what, got, w)
	if got.Err != api.OK {
		m.seen["error "+strconv.Itoa(int(got.Err))]++
	}
	m.hold()
	return got
}

func refusedBy(e api.Errno) machine.Result { return machine.Result{Answer: api.Answer{Err: e}} }

// lives is a worker that does; nil: there is none.
func (m *model) lives(t int) *worker {
	if t < 0 || t >= m.c.Threads || !m.workers[t].lives {
		return nil
	}
	return &m.workers[t]
}

func (m *model) item(i api.Item, got machine.Result) (r machine.Result) {
	w := m.lives(i.T)
	switch i.Kind {
	case api.Spawn:
		if i.T < 0 || i.T >= m.c.Threads || w != nil {
			return refusedBy(api.ErrThread)
		}
		late := m.phase == api.Arming || m.phase == api.Scanning || m.phase == api.Marking
		m.workers[i.T] = worker{lives: true, armed: late, acked: late, regs: make(refs, m.c.Regs)}
	case api.Exit:
		switch {
		case w == nil:
			return refusedBy(api.ErrThread)
		case w.at != 0:
			return refusedBy(api.ErrBusy)
		}
		*w = worker{}
	case api.Do:
		switch {
		case w == nil:
			return refusedBy(api.ErrThread)
		case w.at != 0:
			return refusedBy(api.ErrBusy)
		case i.Code < api.Alloc || i.Code > api.PutG:
			return refusedBy(api.ErrItem)
		}
		m.begin(w, i)
	case api.Go:
		switch {
		case w == nil:
			return refusedBy(api.ErrThread)
		case w.at == 0:
			return refusedBy(api.ErrBusy)
		case w.at == 1:
			w.at = 2
			return m.perform(w, got)
		}
		m.end(w)
	case api.Ack:
		if w == nil {
			return refusedBy(api.ErrThread)
		}
		r.Val = m.ask(w)
	case api.Start, api.Trace, api.Remark, api.Sweep:
		return m.collect(i, got)
	default:
		return refusedBy(api.ErrItem)
	}
	return r
}

// begin begins an operation.
func (m *model) begin(w *worker, i api.Item) {
	w.at, w.item, w.wasArmed = 1, i, w.armed
	w.wrote, w.write = false, api.Write{Early: m.phase != api.Marking}
	if !w.armed || m.c.Engine != api.Yuasa {
		return
	}
	switch i.Code {
	case api.Store:
		if at, e := m.field(w, i.A, i.B); e == api.OK && m.isReg(i.C) {
			m.shade(*at)
			m.seen["announced store"]++
		}
	case api.PutG:
		if m.isReg(i.A) && m.isGlobal(i.B) {
			m.shade(m.globals[i.B])
			m.seen["announced putg"]++
		}
	}
}

func (m *model) isReg(i int) bool    { return i >= 0 && i < m.c.Regs }
func (m *model) isGlobal(i int) bool { return i >= 0 && i < m.c.Globals }

// field is a field of the object in a register.
func (m *model) field(w *worker, reg, i int) (*api.Ref, api.Errno) {
	switch {
	case !m.isReg(reg):
		return nil, api.ErrReg
	case w.regs[reg] == 0:
		return nil, api.ErrNil
	}
	o := m.objects[w.regs[reg]]
	if i < 0 || i >= len(o.fields) {
		return nil, api.ErrField
	}
	return &o.fields[i], api.OK
}

// end ends an operation.
func (m *model) end(w *worker) {
	if w.wasArmed && w.wrote {
		m.post(w.write)
		if w.write.Early {
			m.seen["early"]++
		}
		if w.write.Black {
			m.seen["black"]++
		}
	}
	w.at = 0
	if w.asked {
		w.asked = false
		m.acknowledge(w)
		m.seen["late acknowledgement"]++
	}
}

// post is each engine's barrier behind a write.
func (m *model) post(w api.Write) {
	switch m.c.Engine {
	case api.Steele:
		if w.Src != 0 {
			m.dirty[pageOf(w.Src)] = true
		}
	case api.Dijkstra:
		m.shade(w.New)
	case api.Yuasa:
		m.shade(w.Old)
		if w.Early {
			m.shade(w.New)
		}
	case api.Vyb:
		if !w.Black {
			return
		}
		if w.New != 0 {
			m.count[w.New] = min(m.count[w.New]+1, 3)
			if len(m.log) < m.c.Log {
				m.log = append(m.log, w.New)
			} else {
				m.over = true
			}
		}
		if n := m.count[w.Old]; w.Old != 0 && (n == 1 || n == 2) {
			m.count[w.Old]--
		}
	}
}

func (m *model) wants(w *worker) bool {
	return w.lives && (m.phase == api.Arming || m.phase == api.Scanning) && !w.acked
}

// ask is an Ack.
func (m *model) ask(w *worker) int {
	if !m.wants(w) {
		return 0
	}
	if w.at != 0 {
		w.asked = true
		return 0
	}
	m.acknowledge(w)
	return 1
}

func (m *model) acknowledge(w *worker) {
	w.acked = true
	if m.phase == api.Arming {
		w.armed = true
		return
	}
	m.shade(w.regs...)
	m.shade(w.stack...)
}

// settle is what is done behind each item.
func (m *model) settle() bool {
	for m.phase == api.Arming || m.phase == api.Scanning {
		for i := range m.workers {
			if m.wants(&m.workers[i]) {
				return false
			}
		}
		m.phase++
		for i := range m.workers {
			m.workers[i].acked = false
		}
		if m.phase == api.Scanning {
			m.shade(m.globals...)
		}
	}
	if m.phase != api.Marking || !m.remark || !m.allIdle() {
		return false
	}
	m.finish()
	m.phase, m.remark, m.next = api.Sweeping, false, 0
	for i := range m.workers {
		m.workers[i].armed = false
	}
	return true
}

// finish ends marking.
func (m *model) finish() {
	if m.c.Engine != api.Yuasa {
		m.shade(m.roots()...)
	}
	switch m.c.Engine {
	case api.Steele:
		for r := range m.scanned {
			if m.dirty[pageOf(r)] {
				delete(m.scanned, r)
			}
		}
		clear(m.dirty)
	case api.Vyb:
		for r, n := range m.count {
			if n != 0 && (m.over || slices.Contains(m.log, r)) {
				m.shade(r)
			}
		}
	}
	for grey := m.greys(); len(grey) > 0; grey = m.greys() {
		for _, r := range grey {
			m.scanned[r] = true
			m.shade(m.objects[r].fields...)
		}
	}
	m.holdMarked()
}

func (m *model) greys() refs {
	var l refs
	for r := range m.marked {
		if !m.scanned[r] {
			l = append(l, r)
		}
	}
	return l
}

// holdMarked is P19.2.
func (m *model) holdMarked() {
	for r := range m.reach(m.roots()) {
		if !m.x.Marker().Marked(r) {
			m.t.Fatalf("roots lead to %d, which isn't marked", r)
		}
	}
	for r := range m.x.Marker().All() {
		if !m.may[r] {
			m.t.Fatalf("%d is marked: roots didn't lead to it, and it wasn't born since", r)
		}
	}
}

// collect is an item of the collector.
func (m *model) collect(i api.Item, got machine.Result) (r machine.Result) {
	switch {
	case i.Kind == api.Start && m.phase == api.Idle:
		m.phase = api.Arming
		clear(m.marked)
		clear(m.scanned)
		clear(m.dirty)
		clear(m.count)
		m.log, m.over = nil, false
		m.may = m.reach(m.roots())
		for i := range m.workers {
			m.workers[i].acked = false
		}
		r.Val, r.Began = 1, true
	case i.Kind == api.Trace && m.phase == api.Marking:
		r.Val = m.trace(got.Val)
	case i.Kind == api.Remark && m.phase == api.Marking:
		m.remark = true
		if m.allIdle() {
			r.Val = 1
		}
	case i.Kind == api.Sweep && m.phase == api.Sweeping:
		r.Freed = m.sweep()
		r.Val = len(r.Freed)
		r.Done = m.phase == api.Idle
	}
	return r
}

// trace holds a Trace to what it may scan, and takes its colours over.
func (m *model) trace(n int) int {
	var now refs
	for r := range m.x.Marker().All() {
		if m.x.Marker().Scanned(r) && !m.scanned[r] {
			now = append(now, r)
		}
	}
	want(m.t, "how many Trace scanned", len(now), n)
	for _, r := range now {
		m.shade(m.objects[r].fields...)
	}
	for _, r := range now {
		want(m.t, "was grey", m.marked[r], true)
		m.scanned[r] = true
	}
	if n > m.c.Budget || n < m.c.Budget && len(m.greys()) > 0 {
		m.t.Fatalf("Trace scanned %d of %d, and %d are grey still", n, m.c.Budget, len(m.greys()))
	}
	return n
}

// sweep sweeps a page.
func (m *model) sweep() refs {
	var freed refs
	for r := range m.objects {
		switch {
		case pageOf(r) != m.next:
		case m.marked[r]:
			delete(m.marked, r)
			delete(m.scanned, r)
		default:
			freed = append(freed, r)
			delete(m.objects, r)
		}
	}
	slices.Sort(freed)
	m.next++
	if m.next == m.c.Pages {
		m.phase = api.Idle
	}
	for r := range m.reach(m.roots()) {
		if m.objects[r] == nil {
			m.t.Fatalf("roots lead to %d, which was given back", r)
		}
	}
	return freed
}

// perform does an operation.
func (m *model) perform(w *worker, got machine.Result) (r machine.Result) {
	i := w.item
	a, b, c := m.isReg(i.A), m.isReg(i.B), m.isReg(i.C)
	twoRegs := i.Code == api.Load || i.Code == api.Move || i.Code == api.Eq
	ofGlobal := i.Code == api.GetG || i.Code == api.PutG
	switch {
	case !a, twoRegs && !b, i.Code == api.Store && !c:
		return refusedBy(api.ErrReg)
	case ofGlobal && !m.isGlobal(i.B):
		return refusedBy(api.ErrGlobal)
	}
	switch i.Code {
	case api.Alloc:
		return m.alloc(w, got)
	case api.Load:
		at, e := m.field(w, i.B, i.C)
		if e != api.OK {
			return refusedBy(e)
		}
		w.regs[i.A] = *at
		r.Ref = *at
	case api.Store:
		at, e := m.field(w, i.A, i.B)
		if e != api.OK {
			return refusedBy(e)
		}
		src := w.regs[i.A]
		w.wrote = true
		w.write = api.Write{Src: src, Old: *at, New: w.regs[i.C], Black: m.scanned[src], Early: w.write.Early}
		*at = w.regs[i.C]
	case api.LoadS, api.StoreS:
		if w.regs[i.A] == 0 {
			return refusedBy(api.ErrNil)
		}
		if o := m.objects[w.regs[i.A]]; i.Code == api.LoadS {
			r.Val = o.number
		} else {
			o.number = i.B
		}
	case api.Move:
		w.regs[i.A] = w.regs[i.B]
	case api.Clear:
		w.regs[i.A] = 0
	case api.Eq:
		if w.regs[i.A] == w.regs[i.B] {
			r.Val = 1
		}
	case api.IsNil:
		if w.regs[i.A] == 0 {
			r.Val = 1
		}
	case api.Push:
		if len(w.stack) == m.c.Stack {
			return refusedBy(api.ErrStack)
		}
		w.stack = append(w.stack, w.regs[i.A])
	case api.Pop:
		if len(w.stack) == 0 {
			return refusedBy(api.ErrStack)
		}
		w.regs[i.A] = w.stack[len(w.stack)-1]
		w.stack = w.stack[:len(w.stack)-1]
		r.Ref = w.regs[i.A]
	case api.GetG:
		w.regs[i.A] = m.globals[i.B]
		r.Ref = w.regs[i.A]
	case api.PutG:
		w.wrote = true
		w.write = api.Write{Old: m.globals[i.B], New: w.regs[i.A], Early: w.write.Early}
		m.globals[i.B] = w.regs[i.A]
	}
	return r
}

// alloc is an Alloc; P19.3.
func (m *model) alloc(w *worker, got machine.Result) (r machine.Result) {
	fields := w.item.B
	switch {
	case fields < 0:
		return refusedBy(api.ErrField)
	case fields > m.c.Fields:
		return refusedBy(api.ErrBig)
	case !m.room(fields):
		w.regs[w.item.A] = 0
		return refusedBy(api.ErrMem)
	}
	if got.Ref < 1 || pageOf(got.Ref) >= m.c.Pages || m.objects[got.Ref] != nil {
		m.t.Fatalf("Alloc of %d fields: %v", fields, got)
	}
	m.objects[got.Ref] = &object{fields: make(refs, fields)}
	m.may[got.Ref] = true
	w.regs[w.item.A] = got.Ref
	switch {
	case (m.phase == api.Scanning || m.phase == api.Marking) && m.c.Black, m.phase == api.Sweeping && pageOf(got.Ref) >= m.next:
		m.marked[got.Ref], m.scanned[got.Ref] = true, true
		m.seen["born black"]++
	case m.phase == api.Sweeping:
		m.seen["born behind the sweep"]++
	}
	r.Ref = got.Ref
	return r
}

// hold holds what the machine has to what the model has.
func (m *model) hold() {
	m.t.Helper()
	want(m.t, "Phase", m.x.Phase(), m.phase)
	for t := -1; t <= api.MaxThreads; t++ {
		w := m.lives(t)
		want(m.t, "Idle", m.x.Idle(t), w != nil && w.at == 0)
		want(m.t, "Begun", m.x.Begun(t), w != nil && w.at == 1)
		want(m.t, "Live", m.x.Roots().Live(t), w != nil)
	}
	wantList(m.t, "roots", slices.Collect(m.x.Roots().All()), m.roots()...)
	for t, w := range m.workers {
		if w.lives {
			for i, r := range w.regs {
				got, _ := m.x.Roots().Of(t).Reg(i)
				want(m.t, "Reg", got, r)
			}
			want(m.t, "Depth", m.x.Roots().Of(t).Depth(), len(w.stack))
		}
	}
	m.holdHeap()
}

// holdHeap holds the objects, and their colours.
func (m *model) holdHeap() {
	m.t.Helper()
	a := m.x.Arena()
	all := slices.Collect(a.All())
	want(m.t, "how many objects", len(all), len(m.objects))
	for _, r := range all {
		o := m.objects[r]
		if o == nil {
			m.t.Fatalf("there is an object %d", r)
		}
		want(m.t, "Fields", cell.Fields(a, r), len(o.fields))
		for i, to := range o.fields {
			got, _ := cell.Field(a, r, i)
			want(m.t, "Field", got, to)
		}
		number, _ := cell.Scalar(a, r)
		want(m.t, "Scalar", number, o.number)
		if m.x.Marker().Marked(r) != m.marked[r] || m.x.Marker().Scanned(r) != m.scanned[r] {
			m.t.Fatalf("object %d in phase %d: marked %v, scanned %v; should be %v, %v",
				r, m.phase, m.x.Marker().Marked(r), m.x.Marker().Scanned(r), m.marked[r], m.scanned[r])
		}
	}
}

// someItem is an item: most often one that can be done, now and then one that can't.
func someItem(rnd *rand.Rand, c api.Config) api.Item {
	i := api.Item{T: rnd.Intn(c.Threads), Code: rnd.Intn(api.PutG + 1), A: rnd.Intn(c.Regs), B: rnd.Intn(c.Fields + 1), C: rnd.Intn(c.Regs)}
	switch i.Code {
	case api.Alloc:
		if rnd.Intn(20) == 0 {
			i.B++
		}
	case api.Load:
		i.B, i.C = i.C, i.B
	case api.Move, api.Eq:
		i.B = i.C
	case api.GetG, api.PutG:
		i.B = rnd.Intn(c.Globals + 1)
	}
	switch n := rnd.Intn(200); {
	case n < 60:
		i.Kind = api.Do
	case n < 165:
		i.Kind = api.Go
	case n < 168:
		i.Kind = api.Spawn
	case n < 169:
		i.Kind = api.Exit
	case n < 171:
		i.Kind = api.Start
	case n < 180:
		i.Kind = api.Ack
	case n < 188:
		i.Kind = api.Trace
	case n < 191:
		i.Kind = api.Remark
	case n < 197:
		i.Kind = api.Sweep
	default:
		spoil(rnd, &i)
	}
	return i
}

// spoil puts a wrong number in one of an item's places.
func spoil(rnd *rand.Rand, i *api.Item) {
	i.Kind = []int{api.Do, api.Do, api.Do, rnd.Intn(api.Sweep + 1)}[rnd.Intn(4)]
	at := []*int{&i.Kind, &i.T, &i.Code, &i.A, &i.B, &i.C}
	*at[rnd.Intn(len(at))] = wrong[rnd.Intn(len(wrong))]
}

// configs are configurations of all engines, from the least to greater ones.
func configs() []api.Config {
	var l []api.Config
	for _, c := range []api.Config{
		{Pages: 1, Threads: 1, Regs: 1, Mark: 1, Budget: 1},
		{Pages: 2, Threads: 2, Regs: 3, Stack: 1, Globals: 1, Fields: 2, Mark: 1, Log: 0, Budget: 1},
		{Pages: 4, Threads: 3, Regs: 4, Stack: 2, Globals: 2, Fields: 6, Mark: 2, Log: 1, Budget: 2},
		{Pages: 3, Threads: 4, Regs: 2, Stack: 3, Globals: 3, Fields: 4, Mark: 8, Log: 6, Budget: 5},
	} {
		l = append(l, config.All(c)...)
	}
	return l
}

// P19.1, P19.2, P19.3.
func TestLongRuns(t *testing.T) {
	seen := map[string]int{}
	for n, c := range configs() {
		for seed := range int64(4) {
			rnd := rand.New(rand.NewSource(seed*100 + int64(n)))
			m := newModel(t, c)
			m.seen = seen
			for range 4000 {
				r := m.step(someItem(rnd, c))
				if r.Marked && r.Val == 0 {
					seen["late end of marking"]++
				}
				if r.Done {
					seen["cycle"]++
				}
				if len(r.Freed) > 0 {
					seen["freed"]++
				}
			}
		}
	}
	for _, what := range []string{
		"error 1", "error 2", "error 3", "error 4", "error 5", "error 6", "error 7", "error 8", "error 9", "error 10",
		"announced store", "announced putg", "early", "black", "late acknowledgement", "late end of marking", "cycle",
		"freed", "born black", "born behind the sweep",
	} {
		if seen[what] < 20 {
			t.Errorf("%s: seen %d times", what, seen[what])
		}
	}
}
