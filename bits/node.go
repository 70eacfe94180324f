package bits

import (
	"iter"
	"sync"
	"sync/atomic"
)

// Where a number's bit is, its digits of base 64 say: the last one the bit of its word,
// the one ahead of it the word of its node, those ahead of that the nodes from the top down.
const (
	digit = 6
	base  = 1 << digit
)

// A node has the words of numbers that follow each other: by itself, if its height is 0,
// else by the nodes below it. Where no number was put nothing is laid, as a set's numbers may be
// far more than there is memory for.
type node struct {
	once sync.Once
	leaf atomic.Pointer[[base]atomic.Uint64]
	kids atomic.Pointer[[base]node]
}

// heightFor is the height of the top node of a set of numbers below n.
func heightFor(n int) int {
	height := 0
	for (n-1)>>(digit*(height+2)) > 0 {
		height++
	}
	return height
}

// bitOf is the bit of number i in its word.
func bitOf(i int) uint64 { return 1 << (i % base) }

// part is which word of a node of height 0, or which node below one of another height, number i lies in.
func part(height, i int) int { return i >> (digit * (height + 1)) % base }

// lay gives the word of number i, laying what lacks on the way to it.
func (at *node) lay(height, i int) *atomic.Uint64 {
	at.once.Do(func() {
		if height == 0 {
			at.leaf.Store(new([base]atomic.Uint64))
		} else {
			at.kids.Store(new([base]node))
		}
	})
	if height == 0 {
		return &at.leaf.Load()[part(0, i)]
	}
	return at.kids.Load()[part(height, i)].lay(height-1, i)
}

// find gives the word of number i; nil: it isn't laid.
func (at *node) find(height, i int) *atomic.Uint64 {
	if height == 0 {
		if leaf := at.leaf.Load(); leaf != nil {
			return &leaf[part(0, i)]
		}
		return nil
	}
	if kids := at.kids.Load(); kids != nil {
		return kids[part(height, i)].find(height-1, i)
	}
	return nil
}

// words gives the laid words of a top node from that of number i on, rising, each with its first number.
func (at *node) words(height, i int) iter.Seq2[int, *atomic.Uint64] {
	return func(yield func(int, *atomic.Uint64) bool) { at.tell(height, 0, i, yield) }
}

// tell does what words says for a node whose first number is first; false: it was left.
func (at *node) tell(height, first, i int, yield func(int, *atomic.Uint64) bool) bool {
	from := 0
	if i > first {
		from = part(height, i)
	}
	if height == 0 {
		return tellLeaf(at.leaf.Load(), first, from, yield)
	}
	kids := at.kids.Load()
	if kids == nil {
		return true
	}
	for k := from; k < base; k++ {
		if !kids[k].tell(height-1, first+k<<(digit*(height+1)), i, yield) {
			return false
		}
	}
	return true
}

// tellLeaf tells the words of a leaf from one on; false: it was left.
func tellLeaf(leaf *[base]atomic.Uint64, first, from int, yield func(int, *atomic.Uint64) bool) bool {
	if leaf == nil {
		return true
	}
	for k := from; k < base; k++ {
		if !yield(first+k*base, &leaf[k]) {
			return false
		}
	}
	return true
}
