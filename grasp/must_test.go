package grasp_test

import (
	"slices"
	"testing"

	"errata/api"
	"errata/book"
	"errata/grasp"
	"errata/kinds"
)

var atRuntime = api.Panic{Sort: api.RuntimePanic}

func TestP10_2MustExamples(t *testing.T) {
	b := example(t)
	if v, p, e := grasp.Must[kinds.Note](b, 1); v != "" || p != atRuntime || e != api.OK {
		t.Error("Must[Note](1):", v, p, e)
	}
	if v, p, e := grasp.Must[api.Grader](b, 1); v != kinds.Code(5) || p != (api.Panic{}) || e != api.OK {
		t.Error("Must[Grader](1):", v, p, e)
	}
	if v, p, e := grasp.Must[any](b, 0); v != nil || p != atRuntime || e != api.OK {
		t.Error("Must[any](0):", v, p, e)
	}
	if v, p, e := grasp.Must[*kinds.Plain](b, 5); v != nil || p != (api.Panic{}) || e != api.OK {
		t.Error("Must[*Plain](5):", v, p, e)
	}
	if v, p, e := grasp.Must[kinds.Code](b, 3); v != 0 || p != atRuntime || e != api.OK { // its own error, not one within
		t.Error("Must[Code](3):", v, p, e)
	}
	if v, p, e := grasp.Must[error](b, 9); v != errorOf(t, b, 9) || p != (api.Panic{}) || e != api.OK {
		t.Error("Must[error](9):", v, p, e)
	}
}

func sayIs[A, B, C any](t *testing.T, b *book.Book, h, want int) {
	t.Helper()
	if n, e := grasp.Which[A, B, C](b, h); n != want || e != api.OK {
		var x struct {
			a A
			b B
			c C
		}
		t.Errorf("Which(%d) of %T: %d %d, not %d", h, x, n, e, want)
	}
}

func TestP10_2WhichExamples(t *testing.T) {
	b := example(t)
	sayIs[api.Coder, kinds.Code, error](t, b, 1, 2)
	sayIs[api.One, api.One, error](t, b, 3, 1)
	sayIs[api.One, api.One, error](t, b, 1, 3)
	sayIs[api.Coder, kinds.Note, int](t, b, 1, 0)
	sayIs[kinds.Code, kinds.Code, kinds.Code](t, b, 1, 1)
	sayIs[kinds.Code, kinds.Code, kinds.Code](t, b, 3, 0) // a Code within is none
	sayIs[kinds.Note, *kinds.Plain, error](t, b, 5, 2)
	sayIs[any, any, any](t, b, 5, 1)
	sayIs[any, error, any](t, b, 0, 0)
	sayIs[int, kinds.Note, any](t, b, 0, 0)
}

// sayWhich holds Which of three types against reflection, for each handle.
func sayWhich[A, B, C any](t *testing.T, b *book.Book, came *[4]int) {
	t.Helper()
	for h := range b.Len() + 1 {
		err := errorOf(t, b, h)
		want := 1 + slices.Index([]bool{isOne[A](err), isOne[B](err), isOne[C](err)}, true)
		sayIs[A, B, C](t, b, h, want)
		came[want]++
	}
}

func sayWhichOfOne[A any](t *testing.T, b *book.Book, came *[4]int) {
	t.Helper()
	sayWhichOfTwo[A, A](t, b, came)
	sayWhichOfTwo[A, error](t, b, came)
	sayWhichOfTwo[A, kinds.Code](t, b, came)
	sayWhichOfTwo[A, *kinds.Plain](t, b, came)
	sayWhichOfTwo[A, api.TimedError](t, b, came)
	sayWhichOfTwo[A, own[A]](t, b, came)
}

func sayWhichOfTwo[A, B any](t *testing.T, b *book.Book, came *[4]int) {
	t.Helper()
	sayWhich[A, B, A](t, b, came)
	sayWhich[A, B, B](t, b, came)
	sayWhich[A, B, any](t, b, came)
	sayWhich[A, B, api.Grader](t, b, came)
	sayWhich[A, B, *kinds.Wrap](t, b, came)
	sayWhich[A, B, kinds.Box[[]uint8]](t, b, came)
}

// TestP10_2Which: of types of all sorts, also of one that stands there twice or three times.
func TestP10_2Which(t *testing.T) {
	b := everyKind(t)
	var came [4]int
	sayWhichOfOne[kinds.Tags](t, b, &came)
	sayWhichOfOne[*kinds.Join](t, b, &came)
	sayWhichOfOne[*kinds.Plain](t, b, &came)
	sayWhichOfOne[kinds.Lazy](t, b, &came)
	sayWhichOfOne[kinds.Line](t, b, &came)
	sayWhichOfOne[kinds.Full](t, b, &came)
	sayWhichOfOne[api.CodedCause](t, b, &came)
	sayWhichOfOne[api.Nobody](t, b, &came)
	sayWhichOfOne[string](t, b, &came)
	sayWhichOfOne[any](t, b, &came)
	if slices.Min(came[:]) < 1000 {
		t.Error("how often each came:", came)
	}
}
