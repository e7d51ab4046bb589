package grasp

import (
	"iter"

	"errata/api"
)

// those are the errors that are a T, each with its place among all.
func those[T any](errs []error) iter.Seq2[int, T] {
	return func(yield func(int, T) bool) {
		for at, err := range errs {
			if v, ok := err.(T); ok && !yield(at, v) {
				return
			}
		}
	}
}

// must is what the one-valued assertion to T makes, or the panic that it comes to.
func must[T any](err error) (v T, p api.Panic) {
	defer func() {
		if recover() != nil {
			p = api.Panic{Sort: api.RuntimePanic}
		}
	}()
	return err.(T), api.Panic{}
}

// which may be asked of one type in more than one case: the first of them is taken then.
func which[A, B, C any](err error) int {
	switch err.(type) {
	case A:
		return 1
	case B:
		return 2
	case C:
		return 3
	}
	return 0
}

// done is what a function answers; ErrNil, if there is none.
func done[X, U any](do func(X) U, x X) (u U, e api.Errno) {
	if do == nil {
		return u, api.ErrNil
	}
	return do(x), api.OK
}
