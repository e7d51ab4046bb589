package compare_test

import (
	"slices"
	"testing"

	"errata/api"
	"errata/book"
	"errata/compare"
)

func TestP7_1Refused(t *testing.T) {
	b := book.New()
	for n := range 4 {
		for _, h := range badHandles(n) {
			for _, other := range []int{0, n, -2, h} {
				sayTwo(t, b, h, other, 0, api.ErrHandle)
				sayTwo(t, b, other, h, 0, api.ErrHandle)
			}
			for i := range 4 {
				var row [4]int
				row[i] = h
				sayFour(t, b, row, [4]int{}, 0, api.ErrHandle)
				sayFour(t, b, [4]int{n}, row, 0, api.ErrHandle)
				sayFour(t, b, row, row, 0, api.ErrHandle)
			}
		}
		give(t, b, api.Spec{Kind: api.KindBag})
	}
}

// TestP7_2Refused: a number that names none spoils a row wherever it stands, behind what was found, and in rows of unlike lengths, too.
func TestP7_2Refused(t *testing.T) {
	b := example(t)
	for _, h := range badHandles(b.Len()) {
		for _, row := range [][]int{{h}, {1, h}, {h, 1}, {4, h}, {1, 2, h, 3}} {
			sayRows(t, b, row, row, 0, api.ErrHandle)
			sayRows(t, b, row, nil, 0, api.ErrHandle)
			sayRows(t, b, []int{7, 7}, row, 0, api.ErrHandle)
			saySeek(t, b, 1, row, 0, 0, api.ErrHandle)
			saySeek(t, b, 4, row, 0, 0, api.ErrHandle)
			sayClasses(t, b, row, nil, nil, api.ErrHandle)
		}
		saySeek(t, b, h, nil, 0, 0, api.ErrHandle)
		saySeek(t, b, h, []int{1, h}, 0, 0, api.ErrHandle)
	}
}

func TestP7_3Refused(t *testing.T) {
	b := book.New()
	for n := range 4 {
		for _, h := range badHandles(n) {
			sayByType(t, b, h, false, api.ErrHandle)
			sayNothing(t, b, h, false, false, api.ErrHandle)
		}
		give(t, b, api.Spec{Kind: api.KindPlain, Nil: true})
	}
}

// TestR1NilBook: ErrNil is answered ahead of everything else.
func TestR1NilBook(t *testing.T) {
	for _, h := range []int{0, 1, -1, 1 << 40} {
		sayTwo(t, nil, h, h, 0, api.ErrNil)
		sayFour(t, nil, [4]int{h}, [4]int{}, 0, api.ErrNil)
		sayRows(t, nil, []int{h}, nil, 0, api.ErrNil)
		sayRows(t, nil, nil, []int{h}, 0, api.ErrNil)
		saySeek(t, nil, h, nil, 0, 0, api.ErrNil)
		saySeek(t, nil, 0, []int{h}, 0, 0, api.ErrNil)
		sayByType(t, nil, h, false, api.ErrNil)
		sayNothing(t, nil, h, false, false, api.ErrNil)
		sayClasses(t, nil, []int{h}, nil, nil, api.ErrNil)
	}
	sayRows(t, nil, nil, nil, 0, api.ErrNil)
	sayClasses(t, nil, nil, nil, nil, api.ErrNil)
}

// TestR1BareBook: of a book that New did not make nothing is promised but that no call panics.
func TestR1BareBook(t *testing.T) {
	b := &book.Book{}
	for _, h := range []int{0, 1, -1} {
		compare.Two(b, h, h)
		compare.Four(b, [4]int{h}, [4]int{h})
		compare.Rows(b, []int{h}, []int{h})
		compare.Seek(b, h, []int{h})
		compare.ByType(b, h)
		compare.Nothing(b, h)
		compare.Classes(b, []int{h})
		if s, e := compare.New(b); e == api.OK {
			s.Put(h)
		}
	}
}

// TestR3Lists: what is handed in stays, with the room behind its end.
func TestR3Lists(t *testing.T) {
	b := example(t)
	x, y := []int{1, 7, 11, 77, 78}, []int{2, 7, 12, 79, 80}
	sayRows(t, b, x[:3], y[:3], api.Same, api.OK)
	saySeek(t, b, 7, x[:3], 1, api.Same, api.OK)
	if !slices.Equal(x, []int{1, 7, 11, 77, 78}) || !slices.Equal(y, []int{2, 7, 12, 79, 80}) {
		t.Error("what was handed in is now", x, y)
	}
}
