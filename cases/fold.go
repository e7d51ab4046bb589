package cases

import (
	"slices"

	"errata/api"
	"errata/book"
)

// Fold goes through an error from its leaves up: for each node the function of the clause that is chosen for it.
func Fold[R any](b *book.Book, h int, s *Switch, do []func(h int, parts []R) R) (R, api.Errno) {
	var none R
	if b == nil || s == nil {
		return none, api.ErrNil
	}
	if _, e := b.Error(h); e != api.OK {
		return none, e
	}
	if len(do) != s.Len() {
		return none, api.ErrArg
	}
	if slices.ContainsFunc(do, isNil[R]) {
		return none, api.ErrNil
	}
	return fold(b, h, s, slices.Clone(do)), api.OK // a clone, lest one of them change what is still to be called
}

func isNil[R any](f func(h int, parts []R) R) bool { return f == nil }

// fold is what comes of a handle that the book has. A part that stands twice is gone through twice.
func fold[R any](b *book.Book, h int, s *Switch, do []func(h int, parts []R) R) R {
	handles, _ := b.Parts(h)
	var parts []R
	for _, part := range handles {
		if part != 0 {
			parts = append(parts, fold(b, part, s, do))
		}
	}
	c, _ := s.Pick(b, h)
	if c.Clause == nowhere {
		var none R
		return none
	}
	return do[c.Clause](h, parts)
}
