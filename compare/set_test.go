package compare_test

import (
	"math/rand"
	"testing"

	"errata/api"
	"errata/book"
	"errata/compare"
)

func newSet(t *testing.T, b *book.Book) *compare.Set {
	t.Helper()
	s, e := compare.New(b)
	if s == nil || e != api.OK {
		t.Fatal("New:", s, e)
	}
	sayLen(t, s, 0)
	return s
}

func sayPut(t *testing.T, s *compare.Set, h, want int, wrong api.Errno) {
	t.Helper()
	if outcome, e := s.Put(h); outcome != want || e != wrong {
		t.Errorf("Put(%d): %d %d, not %d %d", h, outcome, e, want, wrong)
	}
}

func sayHas(t *testing.T, s *compare.Set, h, want int, wrong api.Errno) {
	t.Helper()
	if outcome, e := s.Has(h); outcome != want || e != wrong {
		t.Errorf("Has(%d): %d %d, not %d %d", h, outcome, e, want, wrong)
	}
}

func sayDrop(t *testing.T, s *compare.Set, h, want int, wrong api.Errno) {
	t.Helper()
	if outcome, e := s.Drop(h); outcome != want || e != wrong {
		t.Errorf("Drop(%d): %d %d, not %d %d", h, outcome, e, want, wrong)
	}
}

func sayLen(t *testing.T, s *compare.Set, want int) {
	t.Helper()
	if n := s.Len(); n != want {
		t.Errorf("Len: %d, not %d", n, want)
	}
}

func TestP7_5Examples(t *testing.T) {
	s := newSet(t, example(t))
	sayPut(t, s, 1, api.Unlike, api.OK)
	sayPut(t, s, 2, api.Same, api.OK)
	sayPut(t, s, 3, api.Unlike, api.OK)
	sayPut(t, s, 3, api.Unlike, api.OK)
	sayLen(t, s, 3)
	sayHas(t, s, 3, api.Unlike, api.OK)
	sayPut(t, s, 10, api.Panics, api.OK)
	sayHas(t, newSet(t, example(t)), 4, api.Panics, api.OK)
	sayDrop(t, s, 2, api.Same, api.OK)
	sayLen(t, s, 2)
}

// TestP7_5Keys: what may not be a key panics, in a set without any, with some, and in one that was cleared.
func TestP7_5Keys(t *testing.T) {
	b := allKinds(t)
	empty, full, cleared := newSet(t, b), newSet(t, b), newSet(t, b)
	for h := range b.Len() + 1 {
		full.Put(h)
		cleared.Put(h)
	}
	cleared.Clear()
	n, refused := full.Len(), 0
	for h := range b.Len() + 1 {
		if isKey(t, b, h) {
			continue
		}
		refused++
		for _, s := range []*compare.Set{empty, full, cleared} {
			sayHas(t, s, h, api.Panics, api.OK)
			sayDrop(t, s, h, api.Panics, api.OK)
			sayPut(t, s, h, api.Panics, api.OK)
		}
	}
	sayLen(t, empty, 0)
	sayLen(t, full, n)
	sayLen(t, cleared, 0)
	if refused < 100 || n < 100 {
		t.Error("so few may not be keys, or are in:", refused, n)
	}
}

// TestP7_5Each puts each error into a set of its own.
func TestP7_5Each(t *testing.T) {
	b := allKinds(t)
	for h := range b.Len() + 1 {
		s := newSet(t, b)
		if !isKey(t, b, h) {
			sayPut(t, s, h, api.Panics, api.OK)
			sayLen(t, s, 0)
			continue
		}
		itself := compared(t, b, h, h)
		sayHas(t, s, h, api.Unlike, api.OK)
		sayDrop(t, s, h, api.Unlike, api.OK)
		sayPut(t, s, h, api.Unlike, api.OK)
		sayHas(t, s, h, itself, api.OK)
		sayPut(t, s, h, itself, api.OK)
		n := map[int]int{api.Same: 1, api.Unlike: 2}[itself]
		sayLen(t, s, n)
		sayDrop(t, s, h, itself, api.OK)
		sayLen(t, s, map[int]int{api.Same: 0, api.Unlike: 2}[itself])
		sayHas(t, s, h, api.Unlike, api.OK)
	}
}

func TestP7_5NoError(t *testing.T) {
	s := newSet(t, book.New())
	sayHas(t, s, 0, api.Unlike, api.OK)
	sayPut(t, s, 0, api.Unlike, api.OK)
	sayPut(t, s, 0, api.Same, api.OK)
	sayHas(t, s, 0, api.Same, api.OK)
	sayLen(t, s, 1)
	sayDrop(t, s, 0, api.Same, api.OK)
	sayDrop(t, s, 0, api.Unlike, api.OK)
	sayLen(t, s, 0)
}

// TestP7_5Clear takes out what Drop can't, too; what is put in later is in.
func TestP7_5Clear(t *testing.T) {
	s := newSet(t, example(t))
	for range 3 {
		for range 100 {
			sayPut(t, s, 3, api.Unlike, api.OK)
			sayDrop(t, s, 3, api.Unlike, api.OK)
		}
		sayPut(t, s, 1, api.Unlike, api.OK)
		sayLen(t, s, 101)
		s.Clear()
		sayLen(t, s, 0)
		sayHas(t, s, 1, api.Unlike, api.OK)
		s.Clear()
		sayLen(t, s, 0)
	}
}

// TestP7_5Book: a set is of the book as it goes on, and another one of that book is another one.
func TestP7_5Book(t *testing.T) {
	b := example(t)
	s, other := newSet(t, b), newSet(t, b)
	next := b.Len() + 1
	sayPut(t, s, next, 0, api.ErrHandle)
	c := b.Copy()
	give(t, c, api.Spec{Kind: api.KindCode, Number: 5})
	sayPut(t, s, next, 0, api.ErrHandle)
	sayPut(t, s, 1, api.Unlike, api.OK)
	if h := give(t, b, api.Spec{Kind: api.KindCode, Number: 5}); h != next {
		t.Fatal("the next handle is", h)
	}
	sayPut(t, s, next, api.Same, api.OK)
	sayDrop(t, s, next, api.Same, api.OK)
	sayHas(t, s, 1, api.Unlike, api.OK)
	sayPut(t, other, 7, api.Unlike, api.OK)
	sayHas(t, s, 7, api.Unlike, api.OK)
	sayHas(t, newSet(t, c), next, api.Unlike, api.OK)
	sayLen(t, s, 0)
	sayLen(t, other, 1)
}

// TestP7_5Refused: what is refused changes nothing.
func TestP7_5Refused(t *testing.T) {
	b := example(t)
	s := newSet(t, b)
	sayPut(t, s, 1, api.Unlike, api.OK)
	for _, h := range badHandles(b.Len()) {
		sayPut(t, s, h, 0, api.ErrHandle)
		sayHas(t, s, h, 0, api.ErrHandle)
		sayDrop(t, s, h, 0, api.ErrHandle)
	}
	sayLen(t, s, 1)
	sayHas(t, s, 1, api.Same, api.OK)
}

func TestP7_5NoBook(t *testing.T) {
	if s, e := compare.New(nil); s != nil || e != api.ErrNil {
		t.Error("New(nil):", s, e)
	}
	var s *compare.Set
	for _, h := range []int{0, 1, -1} {
		sayPut(t, s, h, 0, api.ErrNil)
		sayHas(t, s, h, 0, api.ErrNil)
		sayDrop(t, s, h, 0, api.ErrNil)
	}
	s.Clear()
	sayLen(t, s, 0)
}

// TestR1BareSet: of a set that New did not make nothing is promised but that no call panics.
func TestR1BareSet(t *testing.T) {
	s := &compare.Set{}
	for _, h := range []int{0, 1, -1} {
		s.Put(h)
		s.Has(h)
		s.Drop(h)
	}
	s.Clear()
	s.Len()
}

// rowSet is a set as the chapter tells it: a row of handles that is gone through by comparing.
type rowSet []int

func (r rowSet) has(t *testing.T, b *book.Book, h int) int {
	for i, x := range r {
		if compared(t, b, x, h) == api.Same {
			return i
		}
	}
	return -1
}

// TestP7_8Drawn does the same to a set and to a row.
func TestP7_8Drawn(t *testing.T) {
	draw := rand.New(rand.NewSource(78))
	b := allKinds(t)
	for range 200 {
		s, row := newSet(t, b), rowSet{}
		few := drawnRow(draw, b, 12)
		for range 100 {
			h := few[draw.Intn(len(few))]
			at, want := row.has(t, b, h), api.Unlike
			switch key := isKey(t, b, h); {
			case !key:
				want = api.Panics
			case at >= 0:
				want = api.Same
			}
			switch draw.Intn(40) {
			case 0:
				s.Clear()
				row = row[:0]
			case 1, 2, 3, 4, 5, 6, 7, 8:
				sayDrop(t, s, h, want, api.OK)
				if want == api.Same {
					row = append(row[:at], row[at+1:]...)
				}
			case 9, 10, 11, 12, 13, 14, 15, 16, 17, 18, 19:
				sayHas(t, s, h, want, api.OK)
			default:
				sayPut(t, s, h, want, api.OK)
				if want == api.Unlike {
					row = append(row, h)
				}
			}
			sayLen(t, s, len(row))
		}
	}
}

// TestP7_8Classes: a set has one of each class, and one for each time that something unlike itself was put in.
func TestP7_8Classes(t *testing.T) {
	b := allKinds(t)
	s := newSet(t, b)
	var row []int
	for h := range b.Len() + 1 {
		row = append(row, h)
	}
	same, out, _ := compare.Classes(b, row)
	for range 3 {
		for _, h := range row {
			s.Put(h)
		}
	}
	unlike := 0
	for _, h := range out {
		if isKey(t, b, h) {
			unlike++
		}
	}
	sayLen(t, s, len(same)+3*unlike)
	for _, group := range same {
		for _, h := range group {
			sayHas(t, s, h, api.Same, api.OK)
		}
	}
	if unlike < 10 {
		t.Error("so few are unlike themselves:", unlike)
	}
}
