package size_test

import (
	"math"
	"testing"

	"hawthorn/api"
	"hawthorn/size"
)

// classes are what the document says of each class, in numbers.
var classes = []struct{ words, cells, least, most int }{
	{words: 2, cells: 16, least: 0, most: 0},
	{words: 4, cells: 8, least: 1, most: 2},
	{words: 8, cells: 4, least: 3, most: 6},
}

// noClasses are numbers of none.
var noClasses = []int{-1, -2, 3, 4, 31, 32, 62, 63, 64, math.MaxInt32, math.MinInt32, math.MaxInt, math.MinInt, math.MinInt + 1}

func wantPair(t *testing.T, call string, a, b, got int, ok bool, want int, wantOK bool) {
	t.Helper()
	if got != want || ok != wantOK {
		t.Errorf("%s of %d, %d: %d, %t, want %d, %t", call, a, b, got, ok, want, wantOK)
	}
}

func TestClassOfFields(t *testing.T) {
	for class, of := range classes {
		for fields := of.least; fields <= of.most; fields++ {
			got, ok := size.Class(fields)
			wantPair(t, "Class", fields, 0, got, ok, class, true)
		}
	}
}

func TestClassOfFieldsThatNoObjectHas(t *testing.T) {
	for _, fields := range []int{-1, -2, -3, api.MaxFields + 1, 8, 32, 1 << 32, math.MaxInt, math.MaxInt - 1, math.MinInt, math.MinInt + 1} {
		got, ok := size.Class(fields)
		wantPair(t, "Class", fields, 0, got, ok, 0, false)
	}
}

func TestWordsAndCells(t *testing.T) {
	for class, of := range classes {
		if got := size.Words(class); got != of.words {
			t.Errorf("Words(%d): %d, want %d", class, got, of.words)
		}
		if got := size.Cells(class); got != of.cells {
			t.Errorf("Cells(%d): %d, want %d", class, got, of.cells)
		}
	}
}

func TestNoSuchClass(t *testing.T) {
	for _, class := range noClasses {
		if got := size.Words(class); got != 0 {
			t.Errorf("Words(%d): %d, want 0", class, got)
		}
		if got := size.Cells(class); got != 0 {
			t.Errorf("Cells(%d): %d, want 0", class, got)
		}
		for _, x := range []int{-1, 0, 1, 2, 8, 32, math.MaxInt, math.MinInt} {
			got, ok := size.Offset(class, x)
			wantPair(t, "Offset", class, x, got, ok, 0, false)
			got, ok = size.Cell(class, x)
			wantPair(t, "Cell", class, x, got, ok, 0, false)
		}
	}
}

func TestAnObjectHasRoomInItsCellAndInNoLesserOne(t *testing.T) {
	for fields := range api.MaxFields + 1 {
		class, _ := size.Class(fields)
		if size.Words(class) < 2+fields {
			t.Errorf("%d fields: a cell has %d words", fields, size.Words(class))
		}
		if size.Words(class-1) >= 2+fields {
			t.Errorf("%d fields: they have room in class %d", fields, class-1)
		}
	}
}

func TestOffsetsOfCells(t *testing.T) {
	for class, of := range classes {
		for cell := -70; cell < 70; cell++ {
			got, ok := size.Offset(class, cell)
			if cell >= 0 && cell < of.cells {
				wantPair(t, "Offset", class, cell, got, ok, cell*of.words, true)
			} else {
				wantPair(t, "Offset", class, cell, got, ok, 0, false)
			}
		}
	}
}

// beginnings are where the cells of a class begin.
func beginnings(words int) map[int]int {
	m := map[int]int{}
	for at := 0; at+words <= api.PageWords; at += words {
		m[at] = len(m)
	}
	return m
}

func TestCellsAtOffsets(t *testing.T) {
	for class, of := range classes {
		at := beginnings(of.words)
		for offset := -140; offset < 140; offset++ {
			cell, begins := at[offset]
			got, ok := size.Cell(class, offset)
			wantPair(t, "Cell", class, offset, got, ok, cell, begins)
		}
	}
}

func TestCellsAndOffsetsFarOff(t *testing.T) {
	far := []int{math.MaxInt, math.MaxInt - 1, math.MaxInt - 7, math.MinInt, math.MinInt + 8, 1 << 32, -1 << 32, 1 << 61, 1 << 62, -1 << 62}
	for class := range classes {
		for _, x := range far {
			got, ok := size.Offset(class, x)
			wantPair(t, "Offset", class, x, got, ok, 0, false)
			got, ok = size.Cell(class, x)
			wantPair(t, "Cell", class, x, got, ok, 0, false)
		}
	}
}

func TestCellsLieOneBehindTheOther(t *testing.T) {
	for class := range classes {
		next := 0
		for cell := range size.Cells(class) {
			offset, ok := size.Offset(class, cell)
			if !ok || offset != next {
				t.Errorf("class %d: cell %d begins at %d, want %d", class, cell, offset, next)
			}
			back, ok := size.Cell(class, offset)
			wantPair(t, "Cell", class, offset, back, ok, cell, true)
			next += size.Words(class)
		}
		if next != api.PageWords {
			t.Errorf("class %d: cells end at %d, want %d", class, next, api.PageWords)
		}
	}
}
