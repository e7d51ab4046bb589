package grasp_test

import (
	"testing"

	"errata/api"
	"errata/book"
	"errata/grasp"
	"errata/kinds"
)

// sayRefused holds that each call answers an error for a handle, and zeros beside it.
func sayRefused[T any](t *testing.T, b *book.Book, h int, want api.Errno) {
	t.Helper()
	var none T
	calls := 0
	if v, at, e := grasp.Find[T](b, h); told(v) != told(none) || at != 0 || e != want {
		t.Errorf("Find(%d): %v %d %d, not %d", h, v, at, e, want)
	}
	if n, e := grasp.Count[T](b, h); n != 0 || e != want {
		t.Errorf("Count(%d): %d %d, not %d", h, n, e, want)
	}
	if v, p, e := grasp.Must[T](b, h); told(v) != told(none) || p != (api.Panic{}) || e != want {
		t.Errorf("Must(%d): %v %v %d, not %d", h, v, p, e, want)
	}
	if n, e := grasp.Which[T, error, any](b, h); n != 0 || e != want {
		t.Errorf("Which(%d): %d %d, not %d", h, n, e, want)
	}
	if nodes, e := grasp.Nodes(b, h); nodes != nil || e != want {
		t.Errorf("Nodes(%d): %v %d, not %d", h, nodes, e, want)
	}
	seq := grasp.All[T](b, h)
	for at, v := range seq {
		t.Errorf("All(%d): %d %v", h, at, v)
	}
	yes := func(T) int { calls++; return 1 }
	no := func(error) int { calls++; return 2 }
	if n, e := grasp.Over(b, h, yes, no); n != 0 || e != want || calls != 0 {
		t.Errorf("Over(%d): %d %d, not %d, %d calls", h, n, e, want, calls)
	}
	if n, e := grasp.Over[T, int](b, h, nil, nil); n != 0 || e != want {
		t.Errorf("Over(%d) with nil functions: %d %d, not %d", h, n, e, want)
	}
	for _, row := range [][]int{{h}, {0, h}, {h, 0}, {0, 0, h, h}} {
		if got, e := grasp.Pick[T](b, row); got != nil || e != want {
			t.Errorf("Pick(%v): %v %d, not %d", row, got, e, want)
		}
	}
}

func TestP10_1To3RefusedHandles(t *testing.T) {
	b := book.New()
	for n := range 4 {
		for _, h := range badHandles(n) {
			sayRefused[error](t, b, h, api.ErrHandle)
			sayRefused[any](t, b, h, api.ErrHandle)
			sayRefused[kinds.Code](t, b, h, api.ErrHandle)
			sayRefused[*kinds.Plain](t, b, h, api.ErrHandle)
			sayRefused[int](t, b, h, api.ErrHandle)
		}
		give(t, b, api.Spec{Kind: api.KindCode, Number: 5})
	}
}

// TestP10_3RefusedRow: a number that names none spoils a row wherever it stands, behind what was picked, too.
func TestP10_3RefusedRow(t *testing.T) {
	b := example(t)
	for _, h := range badHandles(b.Len()) {
		for _, row := range [][]int{{1, h}, {h, 1}, {1, 2, h, 1}, {h, h}} {
			if got, e := grasp.Pick[kinds.Code](b, row); got != nil || e != api.ErrHandle {
				t.Errorf("Pick(%v): %v %d", row, got, e)
			}
		}
	}
}

// TestR1NilBook: ErrNil is answered ahead of everything else.
func TestR1NilBook(t *testing.T) {
	for _, h := range append(badHandles(0), 0, 1) {
		sayRefused[error](t, nil, h, api.ErrNil)
		sayRefused[any](t, nil, h, api.ErrNil)
		sayRefused[kinds.Code](t, nil, h, api.ErrNil)
		sayRefused[int](t, nil, h, api.ErrNil)
	}
	for _, row := range [][]int{nil, {}} {
		if got, e := grasp.Pick[error](nil, row); got != nil || e != api.ErrNil {
			t.Errorf("Pick of an empty row: %v %d", got, e)
		}
	}
}

// TestR1BareBook: of a book that New did not make nothing is promised but that no call panics.
func TestR1BareBook(t *testing.T) {
	var b book.Book
	for _, h := range []int{0, 1, -1} {
		grasp.Find[error](&b, h)
		grasp.Count[error](&b, h)
		grasp.Must[error](&b, h)
		grasp.Which[error, any, int](&b, h)
		grasp.Pick[error](&b, []int{h})
		grasp.Over[error](&b, h, func(error) int { return 1 }, func(error) int { return 2 })
		grasp.Nodes(&b, h)
		for range grasp.All[error](&b, h) {
			break
		}
	}
}
