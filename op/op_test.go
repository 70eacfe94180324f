package op_test

import (
	"math"
	"math/rand"
	"slices"
	"strings"
	"testing"

	"hawthorn/api"
	"hawthorn/op"
)

// An operation is what the document says of one: in the order of the codes, from 0 on.
type operation struct {
	name   string
	regs   string // the numbers that are registers, in order
	global bool   // is B a global?
	sized  bool   // is B how many fields there are?
	writes bool
	tells  bool
}

var operations = []operation{
	{name: "alloc", regs: "A", sized: true, tells: true},
	{name: "load", regs: "AB", tells: true},
	{name: "store", regs: "AC", writes: true},
	{name: "loads", regs: "A"},
	{name: "stores", regs: "A"},
	{name: "move", regs: "AB"},
	{name: "clear", regs: "A"},
	{name: "eq", regs: "AB"},
	{name: "isnil", regs: "A"},
	{name: "push", regs: "A"},
	{name: "pop", regs: "A", tells: true},
	{name: "getg", regs: "A", global: true, tells: true},
	{name: "putg", regs: "A", global: true, writes: true},
}

var (
	// Numbers that are far off; a part of them may look like one that is right.
	far = []int{
		math.MinInt, math.MinInt + 1, -1<<32 + 1, -1 << 32, -257, -256, -255, -128, -64, -13, -2, -1,
		64, 100, 127, 128, 255, 256, 257, 1 << 16, math.MaxInt32, 1 << 32, 1<<32 + 1, 1<<32 + 12, 1 << 62, math.MaxInt - 1, math.MaxInt,
	}

	// The bounds of each number differ, so that none can stand for another.
	config = api.Config{Regs: 5, Globals: 3, Fields: 4, Threads: 2, Stack: 1, Pages: 7, Mark: 9, Log: 6, Budget: 8}
)

func want[T comparable](t *testing.T, what string, got, want T) {
	t.Helper()
	if got != want {
		t.Fatalf("%s: %v, want %v", what, got, want)
	}
}

func wantCheck(t *testing.T, c api.Config, x api.Item, e api.Errno) {
	t.Helper()
	if got := op.Check(c, x); got != e {
		t.Fatalf("Check of %+v with %d registers, %d globals, %d fields: %v, want %v", x, c.Regs, c.Globals, c.Fields, got, e)
	}
}

func wantRegs(t *testing.T, x api.Item, regs ...int) {
	t.Helper()
	if got := op.Regs(x); !slices.Equal(got, regs) {
		t.Fatalf("Regs of %+v: %v, want %v", x, got, regs)
	}
}

// letters name the numbers of an item.
const letters = "ABC"

func number(x *api.Item, letter byte) *int {
	return []*int{&x.A, &x.B, &x.C}[strings.IndexByte(letters, letter)]
}

func with(x api.Item, letter byte, n int) api.Item {
	*number(&x, letter) = n
	return x
}

func others() []int { return append(slices.Clone(far), len(operations), len(operations)+1, 14, 26) }

func below(n, count int) bool { return n >= 0 && n < count }

// checkOf is what the document says of Check, from the table above.
func checkOf(c api.Config, x api.Item) api.Errno {
	if !below(x.Code, len(operations)) {
		return api.ErrItem
	}
	o := operations[x.Code]
	for i := range o.regs {
		if !below(*number(&x, o.regs[i]), c.Regs) {
			return api.ErrReg
		}
	}
	if o.global && !below(x.B, c.Globals) {
		return api.ErrGlobal
	}
	if o.sized && x.B < 0 {
		return api.ErrField
	}
	if o.sized && x.B > c.Fields {
		return api.ErrBig
	}
	return api.OK
}

func TestTheCodesAreThoseOfApi(t *testing.T) {
	for i, x := range []struct {
		code int
		name string
	}{
		{api.Alloc, "alloc"}, {api.Load, "load"}, {api.Store, "store"}, {api.LoadS, "loads"}, {api.StoreS, "stores"}, {api.Move, "move"}, {api.Clear, "clear"},
		{api.Eq, "eq"}, {api.IsNil, "isnil"}, {api.Push, "push"}, {api.Pop, "pop"}, {api.GetG, "getg"}, {api.PutG, "putg"},
	} {
		want(t, "code", x.code, i)
		want(t, "Name", op.Name(x.code), x.name)
	}
}

func TestEachOperation(t *testing.T) {
	for code, o := range operations {
		want(t, "Known of "+o.name, op.Known(code), true)
		want(t, "Name", op.Name(code), o.name)
		want(t, "Writes of "+o.name, op.Writes(code), o.writes)
		want(t, "Tells of "+o.name, op.Tells(code), o.tells)
		got, ok := op.Code(o.name)
		want(t, "Code of "+o.name, got, code)
		want(t, "Code of "+o.name, ok, true)
	}
}

func TestNoSuchCode(t *testing.T) {
	for _, code := range others() {
		want(t, "Known", op.Known(code), false)
		want(t, "Name", op.Name(code), "")
		want(t, "Writes", op.Writes(code), false)
		want(t, "Tells", op.Tells(code), false)
		wantRegs(t, api.Item{Code: code, A: 1, B: 2, C: 3})
		wantCheck(t, config, api.Item{Code: code}, api.ErrItem)
	}
}

// otherNames are near those that there are, but are none of them.
func otherNames() []string {
	l := []string{"", " ", "\x00", "\xff", "0", "12", "nop", "do", "loadss", "storess", "nil", "is", "get", "put", "g", "ѕtore", "new", "free"}
	for _, o := range operations {
		l = append(l, strings.ToUpper(o.name), strings.ToUpper(o.name[:1])+o.name[1:], o.name[1:], o.name[:1],
			" "+o.name, o.name+" ", o.name+"\n", o.name+"\x00", "\x00"+o.name, o.name+o.name, o.name+"\xff", o.name[:1]+" "+o.name[1:], strings.Repeat(o.name, 1000))
		if cut := o.name[:len(o.name)-1]; cut != "load" && cut != "store" {
			l = append(l, cut)
		}
	}
	return l
}

func TestNoSuchName(t *testing.T) {
	for _, name := range otherNames() {
		code, ok := op.Code(name)
		if code != 0 || ok {
			t.Errorf("Code of %q: %d, %t", name, code, ok)
		}
	}
}

func TestRegistersOfEachOperation(t *testing.T) {
	for _, x := range []api.Item{{A: 1, B: 2, C: 3}, {A: 3, B: 2, C: 1}, {A: 0, B: 0, C: 0}, {A: 4, B: 4, C: 4}, {A: -1, B: math.MaxInt, C: math.MinInt}} {
		for code, o := range operations {
			x.Code = code
			var l []int
			for i := range o.regs {
				l = append(l, *number(&x, o.regs[i]))
			}
			wantRegs(t, x, l...)
		}
	}
}

func TestRegistersByTheWords(t *testing.T) {
	wantRegs(t, api.Item{Code: api.Store, A: 1, B: 0, C: 2}, 1, 2)
	wantRegs(t, api.Item{Code: api.Load, A: 1, B: 0, C: 2}, 1, 0)
	wantRegs(t, api.Item{Code: api.Eq, A: 6, B: 6, C: 2}, 6, 6)
	wantRegs(t, api.Item{Code: api.Alloc, A: 1, B: 4}, 1)
	wantRegs(t, api.Item{Code: api.GetG, A: 3, B: 1}, 3)
}

func TestTheListOfRegistersIsTheCallersOwn(t *testing.T) {
	x := api.Item{Code: api.Move, A: 1, B: 2}
	first := op.Regs(x)
	second := op.Regs(x)
	first[0], first[1] = 9, 9
	first = append(first[:1], 8)
	want(t, "what was changed", first[1], 8)
	if !slices.Equal(second, []int{1, 2}) {
		t.Errorf("a list that was answered before: %v", second)
	}
	wantRegs(t, x, 1, 2)
}

func TestItsNumbersAreRight(t *testing.T) {
	for code := range operations {
		for reg := range config.Regs {
			// Where B is no register, it is one that a global and a new object may have.
			x := api.Item{Code: code, A: reg, B: min(reg, config.Globals-1), C: config.Regs - 1 - reg}
			wantCheck(t, config, x, api.OK)
		}
	}
}

func TestEachRegisterPastItsBounds(t *testing.T) {
	for code, o := range operations {
		for i := range o.regs {
			x := api.Item{Code: code, A: 1, B: 1, C: 1}
			wantCheck(t, config, with(x, o.regs[i], 0), api.OK)
			wantCheck(t, config, with(x, o.regs[i], config.Regs-1), api.OK)
			for _, n := range append(slices.Clone(far), config.Regs, config.Regs+1, -config.Regs) {
				wantCheck(t, config, with(x, o.regs[i], n), api.ErrReg)
			}
		}
	}
}

func TestNumbersThatPlayNoPart(t *testing.T) {
	for code, o := range operations {
		for i := range letters {
			if strings.IndexByte(o.regs, letters[i]) >= 0 || letters[i] == 'B' && (o.global || o.sized) {
				continue
			}
			for _, n := range append(slices.Clone(far), 2, 3, 4, 5, 6) {
				wantCheck(t, config, with(api.Item{Code: code, A: 1, B: 1, C: 1}, letters[i], n), api.OK)
			}
		}
	}
}

func TestGlobals(t *testing.T) {
	for _, code := range []int{api.GetG, api.PutG} {
		for b := range config.Globals {
			wantCheck(t, config, api.Item{Code: code, B: b}, api.OK)
		}
		for _, b := range append(slices.Clone(far), config.Globals, config.Globals+1) {
			wantCheck(t, config, api.Item{Code: code, B: b}, api.ErrGlobal)
			wantCheck(t, config, api.Item{Code: code, A: config.Regs, B: b}, api.ErrReg)
			wantCheck(t, config, api.Item{Code: code, A: -1, B: b}, api.ErrReg)
		}
	}
}

func TestFieldsOfANewObject(t *testing.T) {
	for b := 0; b <= config.Fields; b++ {
		wantCheck(t, config, api.Item{Code: api.Alloc, B: b}, api.OK)
	}
	for _, b := range append(slices.Clone(far), config.Fields+1, config.Fields+2) {
		e := api.ErrBig
		if b < 0 {
			e = api.ErrField
		}
		wantCheck(t, config, api.Item{Code: api.Alloc, B: b}, e)
		wantCheck(t, config, api.Item{Code: api.Alloc, A: config.Regs, B: b}, api.ErrReg)
		wantCheck(t, config, api.Item{Code: api.Alloc, A: -1, B: b}, api.ErrReg)
	}
}

func TestTheCodeIsLookedAtFirst(t *testing.T) {
	for _, n := range far {
		wantCheck(t, config, api.Item{Code: 13, A: n, B: n, C: n}, api.ErrItem)
		wantCheck(t, config, api.Item{Code: -1, A: n, B: n, C: n}, api.ErrItem)
		wantCheck(t, api.Config{}, api.Item{Code: n}, api.ErrItem)
	}
}

func TestConfigurationsWithoutAnything(t *testing.T) {
	// Check may be asked of configurations that may not be.
	for _, c := range []api.Config{{}, {Regs: -1, Globals: -1, Fields: -1}, {Regs: math.MinInt, Globals: math.MinInt, Fields: math.MinInt}} {
		for code := range operations {
			wantCheck(t, c, api.Item{Code: code}, api.ErrReg)
		}
		c.Regs = 1
		wantCheck(t, c, api.Item{Code: api.GetG}, api.ErrGlobal)
		wantCheck(t, c, api.Item{Code: api.PutG}, api.ErrGlobal)
		wantCheck(t, c, api.Item{Code: api.Alloc, B: math.MinInt}, api.ErrField)
		wantCheck(t, c, api.Item{Code: api.Alloc, B: 1}, api.ErrBig)
		wantCheck(t, c, api.Item{Code: api.Load}, api.OK)
	}
	wantCheck(t, api.Config{Regs: 1}, api.Item{Code: api.Alloc}, api.OK)
	wantCheck(t, api.Config{Regs: 1, Fields: -1}, api.Item{Code: api.Alloc}, api.ErrBig)
	wantCheck(t, api.Config{Regs: 1, Fields: -2}, api.Item{Code: api.Alloc, B: -1}, api.ErrField)
}

func TestConfigurationsWithMuch(t *testing.T) {
	c := api.Config{Regs: math.MaxInt, Globals: math.MaxInt, Fields: math.MaxInt}
	for code := range operations {
		wantCheck(t, c, api.Item{Code: code, A: math.MaxInt - 1, B: math.MaxInt - 1, C: math.MaxInt - 1}, api.OK)
		wantCheck(t, c, api.Item{Code: code, A: math.MaxInt}, api.ErrReg)
	}
	wantCheck(t, c, api.Item{Code: api.Alloc, B: math.MaxInt}, api.OK)
	wantCheck(t, c, api.Item{Code: api.GetG, B: math.MaxInt}, api.ErrGlobal)
}

func TestOnlyTheNumbersAndTheCodePlayAPart(t *testing.T) {
	rnd := rand.New(rand.NewSource(1))
	for range 2000 {
		x := anItem(rnd)
		y := x
		y.Kind, y.T = far[rnd.Intn(len(far))], far[rnd.Intn(len(far))]
		c := config
		c.Engine, c.Black, c.Pages, c.Threads, c.Stack, c.Mark, c.Log, c.Budget = -1, true, -2, 0, -3, 0, -4, 0
		wantCheck(t, c, y, op.Check(config, x))
		wantRegs(t, y, op.Regs(x)...)
	}
}

// anItem has numbers at the edges and near them.
func anItem(rnd *rand.Rand) api.Item {
	n := func() int {
		if rnd.Intn(10) == 0 {
			return far[rnd.Intn(len(far))]
		}
		return rnd.Intn(config.Regs+3) - 1
	}
	return api.Item{Code: rnd.Intn(len(operations)+2) - 1, A: n(), B: n(), C: n()}
}

func TestCheckAgainstAModel(t *testing.T) {
	rnd := rand.New(rand.NewSource(2))
	seen := map[api.Errno]int{}
	for range 100000 {
		x := anItem(rnd)
		c := api.Config{Regs: rnd.Intn(7), Globals: rnd.Intn(5), Fields: rnd.Intn(7)}
		e := checkOf(c, x)
		wantCheck(t, c, x, e)
		seen[e]++
	}
	for _, e := range []api.Errno{api.OK, api.ErrItem, api.ErrReg, api.ErrGlobal, api.ErrField, api.ErrBig} {
		if seen[e] < 100 {
			t.Errorf("%v came %d times", e, seen[e])
		}
	}
}
