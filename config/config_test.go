package config_test

import (
	"math"
	"math/rand"
	"slices"
	"strings"
	"testing"

	"hawthorn/api"
	"hawthorn/config"
)

// A number is one of a configuration's, with what the document says of it.
type number struct {
	name        string
	of          func(*api.Config) *int
	least, most int
	alike       bool // does it play a part in whether configurations are alike?
}

var numbers = []number{
	{"Engine", func(c *api.Config) *int { return &c.Engine }, 0, 3, false},
	{"Pages", func(c *api.Config) *int { return &c.Pages }, 1, 64, false},
	{"Threads", func(c *api.Config) *int { return &c.Threads }, 1, 4, true},
	{"Regs", func(c *api.Config) *int { return &c.Regs }, 1, 8, true},
	{"Stack", func(c *api.Config) *int { return &c.Stack }, 0, 8, true},
	{"Globals", func(c *api.Config) *int { return &c.Globals }, 0, 4, true},
	{"Fields", func(c *api.Config) *int { return &c.Fields }, 0, 6, true},
	{"Mark", func(c *api.Config) *int { return &c.Mark }, 1, 64, false},
	{"Log", func(c *api.Config) *int { return &c.Log }, 0, 64, false},
	{"Budget", func(c *api.Config) *int { return &c.Budget }, 1, 16, false},
}

var (
	// Far numbers, as a part of them may look like one that may be.
	far = []int{
		math.MinInt, math.MinInt + 1, -1<<32 + 1, -1 << 32, -257, -255, -128, -65, -2,
		127, 128, 255, 256, 257, 1 << 16, math.MaxInt32, 1 << 32, 1<<32 + 1, 1<<32 + 2, 1 << 62, math.MaxInt - 1, math.MaxInt,
	}

	names = []string{"steele", "dijkstra", "yuasa", "vyb"}
)

// A kind of configuration: its engine, and whether it is black.
type kind struct {
	engine int
	black  bool
}

// kinds are those that may be, in the order in which All tells them.
var kinds = []kind{{0, false}, {0, true}, {1, false}, {1, true}, {2, true}, {3, false}, {3, true}}

func want[T comparable](t *testing.T, what string, got, want T) {
	t.Helper()
	if got != want {
		t.Fatalf("%s: %v, want %v", what, got, want)
	}
}

// middle is a configuration that may be, whose numbers are neither the least nor the most, and no two the same.
func middle() api.Config {
	return api.Config{Engine: api.Dijkstra, Pages: 33, Threads: 2, Regs: 6, Stack: 5, Globals: 3, Fields: 4, Mark: 20, Log: 30, Budget: 10}
}

// edge is a configuration all of whose numbers, but the engine's, are told by a function.
func edge(of func(number) int) api.Config {
	var c api.Config
	for _, n := range numbers[1:] {
		*n.of(&c) = of(n)
	}
	return c
}

func least() api.Config { return edge(func(n number) int { return n.least }) }

func most() api.Config { return edge(func(n number) int { return n.most }) }

func with(c api.Config, n number, x int) api.Config {
	*n.of(&c) = x
	return c
}

func withKind(c api.Config, k kind) api.Config {
	c.Engine, c.Black = k.engine, k.black
	return c
}

// mayBe is what the document says of the word, of all the numbers at once.
func mayBe(c api.Config) bool {
	for _, n := range numbers {
		if x := *n.of(&c); x < n.least || x > n.most {
			return false
		}
	}
	return slices.Contains(kinds, kind{c.Engine, c.Black})
}

func wantCheck(t *testing.T, c api.Config) {
	t.Helper()
	e := api.ErrConfig
	if mayBe(c) {
		e = api.OK
	}
	if got := config.Check(c); got != e {
		t.Fatalf("Check of %+v: %v, want %v", c, got, e)
	}
}

// outside is numbers that aren't within a bound.
func outside(n number) []int {
	l := append(slices.Clone(far), n.least-1, n.most+1, -n.most-1, n.most+256, n.most+1<<32)
	return slices.DeleteFunc(l, func(x int) bool { return x >= n.least && x <= n.most })
}

func TestTheGivenNumbersMayBe(t *testing.T) {
	for _, c := range []api.Config{least(), middle(), most()} {
		for _, k := range kinds {
			c := withKind(c, k)
			if got := config.Check(c); got != api.OK {
				t.Errorf("Check of %+v: %v", c, got)
			}
		}
	}
}

func TestYuasaIsBlack(t *testing.T) {
	for _, c := range []api.Config{least(), middle(), most()} {
		want(t, "Check of a white yuasa", config.Check(withKind(c, kind{api.Yuasa, false})), api.ErrConfig)
		want(t, "Check of a black yuasa", config.Check(withKind(c, kind{api.Yuasa, true})), api.OK)
	}
}

func TestEachNumberWithinItsBounds(t *testing.T) {
	for _, base := range []api.Config{least(), middle(), most()} {
		base.Black = true
		for _, n := range numbers {
			for x := n.least; x <= n.most; x++ {
				if c := with(base, n, x); config.Check(c) != api.OK {
					t.Errorf("%s %d may not be: %+v", n.name, x, c)
				}
			}
		}
	}
}

func TestEachNumberPastItsBounds(t *testing.T) {
	for _, base := range []api.Config{least(), middle(), most()} {
		for _, k := range kinds {
			for _, n := range numbers {
				for _, x := range outside(n) {
					if c := with(withKind(base, k), n, x); config.Check(c) != api.ErrConfig {
						t.Errorf("%s %d may be: %+v", n.name, x, c)
					}
				}
			}
		}
	}
}

func TestSeveralNumbersPastTheirBounds(t *testing.T) {
	want(t, "Check of nothing", config.Check(api.Config{}), api.ErrConfig)
	for i, a := range numbers {
		for _, b := range numbers[i+1:] {
			// One below and one above don't make up for each other.
			want(t, "Check", config.Check(with(with(middle(), a, a.least-1), b, b.most+1)), api.ErrConfig)
			want(t, "Check", config.Check(with(with(middle(), a, a.most+1), b, b.least-1)), api.ErrConfig)
		}
	}
}

func TestCheckAgainstAModel(t *testing.T) {
	rnd := rand.New(rand.NewSource(1))
	for range 100000 {
		c := edge(func(n number) int { return n.least + rnd.Intn(n.most-n.least+1) })
		c.Engine, c.Black = rnd.Intn(4), rnd.Intn(2) == 0
		for range rnd.Intn(3) {
			n := numbers[rnd.Intn(len(numbers))]
			c = with(c, n, []int{n.least - 1, n.least, n.most, n.most + 1}[rnd.Intn(4)])
		}
		wantCheck(t, c)
	}
}

func TestNamesOfEngines(t *testing.T) {
	for engine, name := range names {
		want(t, "Name", config.Name(engine), name)
		got, ok := config.Engine(name)
		want(t, "Engine of "+name, got, engine)
		want(t, "Engine of "+name, ok, true)
	}
}

func TestNoSuchEngine(t *testing.T) {
	for _, engine := range append(slices.Clone(far), -1, -3, -4, 4, 5, 64) {
		want(t, "Name", config.Name(engine), "")
	}
}

// otherNames are near those that there are, but are none of them.
func otherNames() []string {
	l := []string{"", " ", "\x00", "\xff", "0", "3", "baker", "black", "white", "steel", "vybs", "wyb", "ѵyb", strings.Repeat("vyb", 1000), strings.Join(names, " "), strings.Join(names, "")}
	for _, name := range names {
		l = append(l, strings.ToUpper(name), strings.ToUpper(name[:1])+name[1:], name[1:], name[:len(name)-1], name[:1],
			" "+name, name+" ", name+"\n", name+"\x00", "\x00"+name, name+name, name+"\xff", name[:1]+" "+name[1:])
	}
	return l
}

func TestNoSuchName(t *testing.T) {
	for _, name := range otherNames() {
		engine, ok := config.Engine(name)
		if engine != 0 || ok {
			t.Errorf("Engine of %q: %d, %t", name, engine, ok)
		}
	}
}

func wantAlike(t *testing.T, a, b api.Config, alike bool) {
	t.Helper()
	if config.Alike(a, b) != alike || config.Alike(b, a) != alike {
		t.Fatalf("Alike of %+v and %+v: %t, %t, want %t", a, b, config.Alike(a, b), config.Alike(b, a), alike)
	}
}

func TestEachNumberThatDiffers(t *testing.T) {
	// Configurations that may not be are alike, or not, as any others.
	for _, base := range []api.Config{{}, least(), middle(), most(), with(middle(), numbers[2], -7)} {
		wantAlike(t, base, base, true)
		for _, n := range numbers {
			for _, x := range append(slices.Clone(far), n.least-1, n.least, n.most, n.most+1) {
				c := with(base, n, x)
				wantAlike(t, base, c, !n.alike || c == base)
			}
		}
	}
}

func TestWhatElseDiffersPlaysNoPart(t *testing.T) {
	a, b := middle(), middle()
	for i, n := range numbers {
		if !n.alike {
			b = with(b, n, i-100)
		}
	}
	wantAlike(t, a, b, true)
	b.Black = true
	wantAlike(t, a, b, true)
	for _, n := range numbers {
		if n.alike {
			wantAlike(t, a, with(b, n, *n.of(&b)+1), false)
		}
	}
}

func TestNumbersThatAreExchangedAreNotAlike(t *testing.T) {
	base := middle()
	for i, a := range numbers {
		for _, b := range numbers[i+1:] {
			c := with(with(base, a, *b.of(&base)), b, *a.of(&base))
			wantAlike(t, base, c, !a.alike && !b.alike)
		}
	}
}

// wantAll: the answer is base with each of the kinds.
func wantAll(t *testing.T, base, c api.Config) {
	t.Helper()
	var l []api.Config
	for _, k := range kinds {
		l = append(l, withKind(base, k))
	}
	if got := config.All(c); !slices.Equal(got, l) {
		t.Fatalf("All of %+v: %+v, want %+v", c, got, l)
	}
}

func TestAllHasEachEngineAndEachBlack(t *testing.T) {
	for _, base := range []api.Config{least(), middle(), most()} {
		wantAll(t, base, base)
		for _, k := range kinds {
			wantAll(t, base, withKind(base, k))
		}
	}
}

func TestTheEngineThatAllIsGivenPlaysNoPart(t *testing.T) {
	base := middle()
	wantAll(t, base, withKind(base, kind{api.Yuasa, false})) // it may not be itself
	for _, engine := range outside(numbers[0]) {
		wantAll(t, base, withKind(base, kind{engine, false}))
		wantAll(t, base, withKind(base, kind{engine, true}))
	}
}

func TestNoneOfAllMayBe(t *testing.T) {
	for _, n := range numbers[1:] {
		for _, x := range outside(n) {
			for _, k := range kinds {
				if l := config.All(with(withKind(middle(), k), n, x)); len(l) != 0 {
					t.Errorf("All with %s %d: %+v", n.name, x, l)
				}
			}
		}
	}
}

func TestAllAreAlikeAndMayBe(t *testing.T) {
	all := config.All(most())
	want(t, "how many", len(all), 7)
	for _, a := range all {
		want(t, "Check", config.Check(a), api.OK)
		for _, b := range all {
			wantAlike(t, a, b, true)
		}
	}
}

func TestAnAnswerIsTheCallersOwn(t *testing.T) {
	first := config.All(middle())
	for i := range first {
		first[i] = api.Config{}
	}
	first = append(first[:1], most())
	wantAll(t, middle(), middle())
	want(t, "what was changed", first[1], most())
}
