package compare_test

import (
	"math"
	"testing"

	"errata/api"
	"errata/book"
	"errata/compare"
	"errata/faces"
)

// TestP7_6Language: what is told is what == says of the values that the book hands out; P3 says the same of the whole.
func TestP7_6Language(t *testing.T) {
	b := allKinds(t)
	for x := range b.Len() + 1 {
		one := errorOf(t, b, x)
		for y := range b.Len() + 1 {
			sayTwo(t, b, x, y, said(one, errorOf(t, b, y)), api.OK)
		}
		if t.Failed() {
			return
		}
	}
}

// table is what comparing each error of a book with each other one comes to.
func table(t *testing.T, b *book.Book) [][]int {
	t.Helper()
	all := make([][]int, b.Len()+1)
	for x := range all {
		all[x] = make([]int, len(all))
		for y := range all {
			outcome, e := compare.Two(b, x, y)
			if e != api.OK {
				t.Fatalf("Two(%d, %d): %d", x, y, e)
			}
			all[x][y] = outcome
		}
	}
	return all
}

func TestP7_6Symmetric(t *testing.T) {
	all := table(t, allKinds(t))
	for x := range all {
		for y := range x {
			if all[x][y] != all[y][x] {
				t.Fatalf("%d and %d: %d, and %d", x, y, all[x][y], all[y][x])
			}
		}
	}
}

// TestP7_6Transitive: what is the Same as one of two that are the Same is so as the other one, and nothing else is.
func TestP7_6Transitive(t *testing.T) {
	all := table(t, allKinds(t))
	for x := range all {
		for y := range all {
			if x == y || all[x][y] != api.Same {
				continue
			}
			for z := range all {
				if (all[y][z] == api.Same) != (all[x][z] == api.Same) {
					t.Fatalf("%d, %d and %d: %d %d %d", x, y, z, all[x][y], all[y][z], all[x][z])
				}
			}
		}
	}
}

func TestP7_6Faces(t *testing.T) {
	b := allKinds(t)
	all := table(t, b)
	for x := range all {
		held, _ := faces.Held(b, x)
		for y := range all {
			if other, _ := faces.Held(b, y); all[x][y] == api.Same && held != other {
				t.Fatalf("%d and %d are the Same, and hold %b and %b", x, y, held, other)
			}
		}
	}
}

// hasNaN tells whether a NaN is in what is compared of an error.
func hasNaN(t *testing.T, b *book.Book, h int) bool {
	t.Helper()
	if h == 0 {
		return false
	}
	s := specOf(t, b, h)
	switch s.Kind {
	case api.KindHold, api.KindOver, api.KindTimed, api.KindVeil:
		return hasNaN(t, b, partOf(s))
	}
	return math.IsNaN(s.Re) || math.IsNaN(s.Im)
}

func TestP7_7Itself(t *testing.T) {
	b := allKinds(t)
	all := table(t, b)
	alike := 0
	for x := range all {
		if isKey(t, b, x) {
			for y := range all {
				if all[x][y] == api.Panics {
					t.Errorf("%d may be a key, and is compared with %d by a panic", x, y)
				}
			}
		}
		ok, _ := compare.ByType(b, x)
		if ok && all[x][x] == api.Panics {
			alike++
		}
		if !ok && all[x][x] != api.Panics {
			t.Errorf("%d, whose type can't be compared, is %d", x, all[x][x])
		}
		if all[x][x] == api.Unlike && !hasNaN(t, b, x) {
			t.Errorf("%d is unlike itself without a NaN", x)
		}
	}
	if alike == 0 {
		t.Error("none whose type can be compared panics")
	}
}
