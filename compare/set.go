package compare

import (
	"errata/api"
	"errata/book"
)

// Set is a set of errors of a book.
type Set struct {
	book *book.Book
	in   map[error]struct{}
}

// New makes a set without errors.
func New(b *book.Book) (*Set, api.Errno) {
	if b == nil {
		return nil, api.ErrNil
	}
	return &Set{book: b, in: map[error]struct{}{}}, api.OK
}

// Put puts an error in.
func (s *Set) Put(h int) (int, api.Errno) {
	return s.ask(h, func(err error) bool {
		found := s.has(err)
		s.in[err] = struct{}{}
		return found
	})
}

// Has is whether one like it is in.
func (s *Set) Has(h int) (int, api.Errno) {
	return s.ask(h, s.has)
}

// Drop takes it out.
func (s *Set) Drop(h int) (int, api.Errno) {
	return s.ask(h, func(err error) bool {
		found := s.has(err)
		delete(s.in, err)
		return found
	})
}

// Len is how many are in.
func (s *Set) Len() int {
	if s == nil {
		return 0
	}
	return len(s.in)
}

// Clear takes all out.
func (s *Set) Clear() {
	if s != nil {
		clear(s.in) // what is unlike itself, too, which delete does not find
	}
}

// ask is what a question about the error of a handle comes to. That it may not be a key is told by the map's own panic.
func (s *Set) ask(h int, isIn func(error) bool) (int, api.Errno) {
	if s == nil {
		return 0, api.ErrNil
	}
	err, e := s.book.Error(h)
	if e != api.OK {
		return 0, e
	}
	return outcomeOf(func() bool { return isIn(err) }), api.OK
}

func (s *Set) has(err error) bool {
	_, found := s.in[err]
	return found
}
