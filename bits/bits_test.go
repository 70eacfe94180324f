package bits_test

import (
	"math"
	"math/rand"
	"runtime"
	"slices"
	"sync"
	"sync/atomic"
	"testing"

	"hawthorn/bits"
)

// lengths are those at which a set needs another word, or another height of nodes.
var lengths = []int{1, 2, 63, 64, 65, 127, 128, 129, 4095, 4096, 4097, 262143, 262144, 262145}

func numbers(s *bits.Set) []int { return slices.Collect(s.All()) }

func filled(n int) *bits.Set {
	s := bits.New(n)
	for i := range n {
		s.Put(i)
	}
	return s
}

func wantNumbers(t *testing.T, s *bits.Set, want ...int) {
	t.Helper()
	if got := numbers(s); !slices.Equal(got, want) {
		t.Fatalf("All: %v, want %v", got, want)
	}
	if got := s.Count(); got != len(want) {
		t.Fatalf("Count: %d, want %d", got, len(want))
	}
	for _, i := range want {
		if !s.Has(i) {
			t.Fatalf("Has(%d): false", i)
		}
	}
}

func TestNewIsEmpty(t *testing.T) {
	for _, n := range lengths {
		s := bits.New(n)
		if s.Len() != n {
			t.Fatalf("Len: %d, want %d", s.Len(), n)
		}
		wantNumbers(t, s)
		for _, i := range []int{0, n / 2, n - 1} {
			if s.Has(i) || s.Drop(i) {
				t.Fatalf("a new set below %d has %d", n, i)
			}
		}
	}
}

func TestPutTwice(t *testing.T) {
	s := bits.New(8)
	if !s.Put(3) || s.Put(3) {
		t.Fatal("Put(3) twice: true, false")
	}
	wantNumbers(t, s, 3)
}

func TestDropTwice(t *testing.T) {
	s := bits.New(8)
	s.Put(3)
	s.Put(4)
	if !s.Drop(3) || s.Drop(3) || s.Has(3) {
		t.Fatal("Drop(3) twice: true, false")
	}
	wantNumbers(t, s, 4)
	if !s.Put(3) {
		t.Fatal("what was dropped may be put again")
	}
	wantNumbers(t, s, 3, 4)
}

func TestSetsOfNoNumbers(t *testing.T) {
	for _, n := range []int{0, -1, -64, -65, math.MinInt} {
		s := bits.New(n)
		for _, i := range []int{0, -1, 1, 63, 64, n, n - 1, math.MaxInt, math.MinInt} {
			if s.Put(i) || s.Has(i) || s.Drop(i) {
				t.Fatalf("a set of no numbers takes %d", i)
			}
		}
		s.Reset()
		if s.Len() != 0 {
			t.Fatalf("Len: %d, want 0", s.Len())
		}
		wantNumbers(t, s)
	}
}

func TestNumbersThatThereAreNot(t *testing.T) {
	for _, n := range lengths {
		s := filled(n)
		for _, i := range []int{-1, -2, -64, -n, math.MinInt, n, n + 1, n + 63, n + 64, 2 * n, math.MaxInt} {
			if s.Put(i) || s.Has(i) || s.Drop(i) {
				t.Fatalf("a set below %d takes %d", n, i)
			}
		}
		if s.Count() != n {
			t.Fatalf("Count: %d, want %d", s.Count(), n)
		}
	}
}

func TestFilled(t *testing.T) {
	for _, n := range lengths {
		s := filled(n)
		next := 0
		for i := range s.All() {
			if i != next || !s.Has(i) {
				t.Fatalf("below %d: %d, want %d", n, i, next)
			}
			next++
		}
		if next != n || s.Count() != n {
			t.Fatalf("below %d: All tells %d, Count %d", n, next, s.Count())
		}
	}
}

func TestEdgesOfWords(t *testing.T) {
	for _, edge := range []int{64, 128, 4096, 8192, 262144} {
		s := bits.New(edge + 1)
		if !s.Put(edge) || s.Has(edge-1) || !s.Put(edge-1) {
			t.Fatalf("%d and %d are not the same", edge, edge-1)
		}
		wantNumbers(t, s, edge-1, edge)
		if !s.Drop(edge-1) || !s.Has(edge) {
			t.Fatalf("%d went with %d", edge, edge-1)
		}
		wantNumbers(t, s, edge)
	}
}

func TestReset(t *testing.T) {
	for _, n := range lengths {
		s := filled(n)
		s.Reset()
		wantNumbers(t, s)
		if s.Len() != n || s.Has(0) || s.Drop(n-1) {
			t.Fatalf("below %d: something stays behind Reset", n)
		}
		if !s.Put(n - 1) {
			t.Fatalf("below %d: Put behind Reset", n)
		}
		wantNumbers(t, s, n-1)
	}
}

func TestFarMoreNumbersThanMemory(t *testing.T) {
	for _, n := range []int{math.MaxInt32, 1 << 40, 1<<60 + 1, math.MaxInt - 1, math.MaxInt} {
		s := bits.New(n)
		for _, i := range []int{n - 1, 0, n / 2} {
			if s.Has(i) || s.Drop(i) || !s.Put(i) || s.Put(i) {
				t.Fatalf("below %d: %d", n, i)
			}
		}
		if s.Put(n) || s.Put(-1) || s.Len() != n {
			t.Fatalf("below %d: numbers that there are not", n)
		}
		wantNumbers(t, s, 0, n/2, n-1)
		if !s.Drop(n - 1) {
			t.Fatalf("below %d: Drop of the last one", n)
		}
		wantNumbers(t, s, 0, n/2)
		s.Reset()
		wantNumbers(t, s)
	}
}

func TestAllLeft(t *testing.T) {
	s := bits.New(300)
	all := []int{0, 1, 63, 64, 200, 299}
	for _, i := range all {
		s.Put(i)
	}
	for stop := range all {
		var got []int
		for i := range s.All() {
			got = append(got, i)
			if len(got) == stop+1 {
				break
			}
		}
		if !slices.Equal(got, all[:stop+1]) {
			t.Fatalf("left at %d: %v", stop, got)
		}
	}
	wantNumbers(t, s, all...)
}

func TestAllIsOfTheTimeItIsGoneThrough(t *testing.T) {
	s := bits.New(100)
	all := s.All()
	s.Put(70)
	s.Put(7)
	for range 2 {
		if got := slices.Collect(all); !slices.Equal(got, []int{7, 70}) {
			t.Fatal(got)
		}
	}
	s.Reset()
	if got := slices.Collect(all); len(got) != 0 {
		t.Fatal(got)
	}
}

func TestAllWhileTheSetIsChanged(t *testing.T) {
	s := bits.New(10000)
	for _, i := range []int{5, 6, 70, 9000} {
		s.Put(i)
	}
	var got []int
	for i := range s.All() {
		got = append(got, i)
		switch i {
		case 5:
			s.Drop(5)    // behind: it was told
			s.Put(4)     // behind: it is looked for no more
			s.Drop(6)    // ahead, in the same word
			s.Put(8)     // likewise
			s.Put(64)    // in the next word
			s.Drop(70)   // likewise
			s.Put(5000)  // where nothing was yet
			s.Drop(9000) // where nothing is any more
		case 5000:
			s.Put(5000)
			s.Put(9999)
		}
	}
	if want := []int{5, 8, 64, 5000, 9999}; !slices.Equal(got, want) {
		t.Fatalf("%v, want %v", got, want)
	}
	wantNumbers(t, s, 4, 8, 64, 5000, 9999)
}

func TestAllWhileTheSetIsReset(t *testing.T) {
	s := filled(200)
	var got []int
	for i := range s.All() {
		got = append(got, i)
		if s.Count() == 200 {
			s.Reset()
			s.Put(130)
		}
	}
	if !slices.Equal(got, []int{0, 130}) {
		t.Fatal(got)
	}
}

func TestAllPutsTheNextOne(t *testing.T) {
	s := bits.New(200)
	s.Put(0)
	for i := range s.All() {
		s.Put(i + 1)
	}
	if s.Count() != 200 {
		t.Fatal(s.Count())
	}
}

func TestAllWithinAll(t *testing.T) {
	s := bits.New(100)
	s.Put(2)
	s.Put(99)
	var got [][2]int
	for i := range s.All() {
		for k := range s.All() {
			got = append(got, [2]int{i, k})
		}
	}
	if !slices.Equal(got, [][2]int{{2, 2}, {2, 99}, {99, 2}, {99, 99}}) {
		t.Fatal(got)
	}
}

func TestAllLeftByAPanic(t *testing.T) {
	s := bits.New(100)
	s.Put(2)
	func() {
		defer func() { recover() }()
		for range s.All() {
			panic("left")
		}
	}()
	s.Reset() // ends only if nothing is held any more
	wantNumbers(t, s)
}

func TestSetsAreApart(t *testing.T) {
	a, b := bits.New(10), bits.New(10)
	a.Put(1)
	b.Put(2)
	wantNumbers(t, a, 1)
	wantNumbers(t, b, 2)
}

// model does what a set does, by a list of bools.
type model []bool

func (m model) change(i int, to bool) bool {
	if i < 0 || i >= len(m) || m[i] == to {
		return false
	}
	m[i] = to
	return true
}

func (m model) numbers() []int {
	var l []int
	for i, has := range m {
		if has {
			l = append(l, i)
		}
	}
	return l
}

func TestAgainstAModel(t *testing.T) {
	r := rand.New(rand.NewSource(1))
	for _, n := range []int{0, 1, 5, 63, 64, 65, 200, 4096, 5000} {
		s, m := bits.New(n), make(model, n)
		for range 3000 {
			i := r.Intn(n+4) - 2
			var got, want bool
			switch r.Intn(3) {
			case 0:
				got, want = s.Put(i), m.change(i, true)
			case 1:
				got, want = s.Drop(i), m.change(i, false)
			case 2:
				got, want = s.Has(i), i >= 0 && i < n && m[i]
			}
			if got != want {
				t.Fatalf("below %d: %d: %t, want %t", n, i, got, want)
			}
			if r.Intn(100) == 0 {
				wantNumbers(t, s, m.numbers()...)
			}
			if r.Intn(1000) == 0 {
				s.Reset()
				clear(m)
			}
		}
		wantNumbers(t, s, m.numbers()...)
	}
}

const workers = 8

// together does work beside itself, each time with another number.
func together(work func(w int)) {
	var wait sync.WaitGroup
	for w := range workers {
		wait.Go(func() { work(w) })
	}
	wait.Wait()
}

// beside does work again and again, beside change, and once behind it.
func beside(change, work func()) {
	var over atomic.Bool
	var wait sync.WaitGroup
	wait.Go(func() {
		for !over.Load() {
			work()
		}
	})
	change()
	over.Store(true)
	wait.Wait()
	work()
}

func TestPutAndDropTogetherAreOneByOne(t *testing.T) {
	const n = 5000
	for range 20 {
		s := bits.New(n)
		var puts, drops atomic.Int64
		together(func(int) {
			for i := range n {
				if s.Put(i) {
					puts.Add(1)
				}
			}
		})
		if puts.Load() != n || s.Count() != n {
			t.Fatalf("%d puts of %d numbers are true, %d are there", puts.Load(), n, s.Count())
		}
		together(func(int) {
			for i := range n {
				if s.Drop(i) {
					drops.Add(1)
				}
			}
		})
		if drops.Load() != n || s.Count() != 0 {
			t.Fatalf("%d drops of %d numbers are true, %d are there", drops.Load(), n, s.Count())
		}
	}
}

func TestNumbersOfOneWordTogether(t *testing.T) {
	s := bits.New(64)
	together(func(w int) {
		for k := range 20000 {
			if i := w*workers + k%workers; !s.Put(i) || !s.Has(i) || !s.Drop(i) || s.Has(i) {
				t.Errorf("%d was changed by another one's calls", i)
				return
			}
		}
	})
	wantNumbers(t, s)
}

func TestCountIsOfOneMoment(t *testing.T) {
	const low, high = 0, 4095
	s := bits.New(high + 1)
	s.Put(low)
	move := func() {
		for range 20000 {
			s.Put(high)
			s.Drop(low)
			s.Put(low)
			s.Drop(high)
		}
	}
	beside(move, func() {
		if c := s.Count(); c != 1 && c != 2 {
			t.Errorf("Count: %d, where there are always one or two", c)
		}
	})
}

// spin goes on while something is so, without sleep, as what is looked for is over in microseconds;
// it gives way at times, lest it wait for one that has no processor.
func spin(while func() bool) {
	for k := 1; while(); k++ {
		if k%10000 == 0 {
			runtime.Gosched()
		}
	}
}

// fillWords puts a number into each word, so that Reset has much to do.
func fillWords(s *bits.Set) {
	for i := 32; i < s.Len(); i += 64 {
		s.Put(i)
	}
}

func TestResetIsOfOneMoment(t *testing.T) {
	const n = 1 << 18
	s := bits.New(n)
	for _, order := range [][2]int{{0, n - 1}, {n - 1, 0}} {
		for range 100 {
			fillWords(s)
			s.Put(0)
			s.Put(n - 1)
			var wait sync.WaitGroup
			wait.Go(s.Reset)
			spin(func() bool { return s.Has(order[0]) })
			late := s.Has(order[1])
			wait.Wait()
			if late {
				t.Fatalf("%d was gone by Reset, then %d was still there", order[0], order[1])
			}
		}
	}
}

func TestPutBesideReset(t *testing.T) {
	const n = 1 << 18
	s := bits.New(n)
	for _, order := range [][2]int{{0, n - 1}, {n - 1, 0}} {
		for delay := range 200 {
			fillWords(s)
			var begun atomic.Bool
			var wait sync.WaitGroup
			wait.Go(func() {
				begun.Store(true)
				s.Reset()
			})
			spin(func() bool { return !begun.Load() })
			for range delay * 10 {
				begun.Load()
			}
			s.Put(order[0])
			s.Put(order[1])
			wait.Wait()
			if s.Has(order[0]) && !s.Has(order[1]) {
				t.Fatalf("%d came behind Reset, and %d, put later, went by it", order[0], order[1])
			}
			s.Reset()
		}
	}
}

func TestAllTogetherWithChanges(t *testing.T) {
	const n = 9000
	s := bits.New(n)
	s.Put(0)
	s.Put(n - 1)
	change := func() {
		for i := 1; i < n-1; i++ {
			s.Put(i)
			s.Drop(i - i%3)
			s.Put(0)
		}
	}
	beside(change, func() {
		before := -1
		for i := range s.All() {
			if i <= before {
				t.Errorf("%d behind %d", i, before)
			}
			before = i
		}
		if before != n-1 {
			t.Errorf("All ends at %d", before)
		}
	})
}
