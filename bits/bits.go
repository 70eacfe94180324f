// Package bits is layer 1: see shared/doc/01-bits.md.
package bits

import (
	"iter"
	"math/bits"
	"sync"
)

// A Set is numbers below another one; its words are laid when they are first asked for.
type Set struct {
	n      int
	height int // of top

	// One word alone is changed or read at once by its atomic, under the reader's lock.
	// Count and Reset speak of all words at one moment: they shut the others out.
	lock sync.RWMutex
	top  node
}

// New: an empty one.
func New(n int) *Set {
	n = max(n, 0)
	return &Set{n: n, height: heightFor(n)}
}

// Len: below which number.
func (s *Set) Len() int { return s.n }

// Put: a number is in the set; false: it was, or there is none.
func (s *Set) Put(i int) bool {
	if !s.knows(i) {
		return false
	}
	s.lock.RLock()
	defer s.lock.RUnlock()
	bit := bitOf(i)
	return s.top.lay(s.height, i).Or(bit)&bit == 0
}

// Drop: a number isn't in it any more; false: it wasn't.
func (s *Set) Drop(i int) bool {
	if !s.knows(i) {
		return false
	}
	s.lock.RLock()
	defer s.lock.RUnlock()
	word, bit := s.top.find(s.height, i), bitOf(i)
	return word != nil && word.And(^bit)&bit != 0
}

// Has: is it in the set?
func (s *Set) Has(i int) bool {
	if !s.knows(i) {
		return false
	}
	s.lock.RLock()
	defer s.lock.RUnlock()
	word := s.top.find(s.height, i)
	return word != nil && word.Load()&bitOf(i) != 0
}

// Count: how many are.
func (s *Set) Count() int {
	s.lock.Lock()
	defer s.lock.Unlock()
	count := 0
	for _, word := range s.top.words(s.height, 0) {
		count += bits.OnesCount64(word.Load())
	}
	return count
}

// Reset: none are.
func (s *Set) Reset() {
	s.lock.Lock()
	defer s.lock.Unlock()
	for _, word := range s.top.words(s.height, 0) {
		word.Store(0)
	}
}

// All: those that are, rising.
func (s *Set) All() iter.Seq[int] {
	return func(yield func(int) bool) {
		// No lock is held while a number is told: who is told it may call the set.
		i, ok := s.next(0)
		for ok && yield(i) {
			i, ok = s.next(i + 1)
		}
	}
}

// next is the least number from i on that is in the set.
func (s *Set) next(i int) (int, bool) {
	if !s.knows(i) {
		return 0, false
	}
	s.lock.RLock()
	defer s.lock.RUnlock()
	for first, word := range s.top.words(s.height, i) {
		left := word.Load()
		if first < i {
			left &^= bitOf(i) - 1
		}
		if left != 0 {
			return first + bits.TrailingZeros64(left), true
		}
	}
	return 0, false
}

// knows: may the number be in the set?
func (s *Set) knows(i int) bool { return i >= 0 && i < s.n }
