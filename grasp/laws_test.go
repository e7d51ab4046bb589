package grasp_test

import (
	"slices"
	"testing"

	"errata/api"
	"errata/book"
	"errata/grasp"
)

// TestP10_5All: of error, and of any, all within are one.
func TestP10_5All(t *testing.T) {
	for _, b := range []*book.Book{everyKind(t), drawnBook(t, 51), drawnBook(t, 52)} {
		for h := range b.Len() + 1 {
			nodes, _ := grasp.Nodes(b, h)
			all := make([]int, len(nodes))
			for at := range nodes {
				all[at] = at
			}
			sayNumbered[error](t, b, h, all...)
			sayNumbered[any](t, b, h, all...)
			if h == 0 {
				sayFound[error](t, b, 0, 0, -1)
				continue
			}
			sayFound[error](t, b, h, h, 0)
			sayFound[any](t, b, h, h, 0)
		}
	}
}

// sayFollows holds that whatever is a T is a U, within each error of a book; it tells how many were Ts.
func sayFollows[T, U any](t *testing.T, b *book.Book) int {
	t.Helper()
	came := 0
	for h := range b.Len() + 1 {
		less, e := grasp.Count[T](b, h)
		more, f := grasp.Count[U](b, h)
		if less > more || e != api.OK || f != api.OK {
			t.Errorf("Count(%d): %d and %d", h, less, more)
		}
		_, behind, e := grasp.Find[T](b, h)
		_, ahead, f := grasp.Find[U](b, h)
		if e == api.OK && (f != api.OK || ahead > behind) {
			t.Errorf("Find(%d): %d, and %d %d", h, behind, ahead, f)
		}
		wide := numbered[U](b, h, -1)
		for _, at := range numbered[T](b, h, -1) {
			if !slices.Contains(wide, at) {
				t.Errorf("All(%d): %d is one, and is none", h, at)
			}
		}
		came += less
	}
	return came
}

func TestP10_5Follows(t *testing.T) {
	type two interface {
		Code() int16
		Grade() int8
	}
	for _, b := range []*book.Book{everyKind(t), drawnBook(t, 53)} {
		for name, came := range map[string]int{
			"CodedCause is One":     sayFollows[api.CodedCause, api.One](t, b),
			"CodedCause is Coder":   sayFollows[api.CodedCause, api.Coder](t, b),
			"TimedError is Timer":   sayFollows[api.TimedError, api.Timer](t, b),
			"TimedError is error":   sayFollows[api.TimedError, error](t, b),
			"Timer is TimedError":   sayFollows[api.Timer, api.TimedError](t, b), // all errors have Error
			"two is Coder":          sayFollows[two, api.Coder](t, b),
			"two is Grader":         sayFollows[two, api.Grader](t, b),
			"Grader is any":         sayFollows[api.Grader, any](t, b),
			"any is error":          sayFollows[any, error](t, b),
			"Coder is interface {}": sayFollows[api.Coder, interface{}](t, b),
		} {
			if came == 0 {
				t.Error(name, "was never asked")
			}
		}
		if sayFollows[api.Whole, api.Grader](t, b)+sayFollows[api.Nobody, any](t, b) != 0 {
			t.Error("something is Whole, or Nobody")
		}
	}
}
