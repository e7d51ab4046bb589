package cases

import (
	"errata/api"
	"errata/book"
	"errata/faces"
	"errata/kindof"
)

const (
	nowhere   = -1 // the Clause where nothing is chosen
	byDefault = -1 // the Term where none holds
)

// Switch is clauses that were compiled: a row of attempts, of which the first that is one chooses.
type Switch struct {
	row     []attempt
	clauses int
}

// attempt is a term or a default, compiled: what it chooses, and whether it does.
type attempt func(x asked) (Choice, bool)

// asked is an error of a book, or no error, of which a switch asks. Its kind is found once for all terms; faces are asked for when a term comes to it.
type asked struct {
	book   *book.Book
	handle int
	kind   uint8 // 0 of no error
}

func ask(b *book.Book, h int) (asked, api.Errno) {
	err, e := b.Error(h)
	if e != api.OK {
		return asked{}, e
	}
	return asked{book: b, handle: h, kind: kindof.Error(err)}, api.OK
}

// Compile compiles clauses.
func Compile(l []Clause) (*Switch, api.Errno) {
	if _, e := Check(l); e != api.OK {
		return nil, e
	}
	s := &Switch{clauses: len(l)}
	for i, clause := range l {
		for _, c := range clause.choices(i) {
			if c.Term != byDefault {
				s.row = append(s.row, attemptOf(clause.Terms[c.Term], c))
			}
		}
	}
	for i, clause := range l { // wherever the default stands, it is tried last
		if clause.Default {
			s.row = append(s.row, always(clause.choices(i)[0]))
		}
	}
	return s, api.OK
}

func attemptOf(t Term, c Choice) attempt {
	if t.Face != 0 {
		return func(x asked) (Choice, bool) {
			holds, _ := faces.Holds(x.book, x.handle, t.Face)
			return c, holds
		}
	}
	return func(x asked) (Choice, bool) { // a term without a kind asks for no error, whose kind is 0, too
		return c, x.kind == t.Kind
	}
}

func always(c Choice) attempt {
	return func(asked) (Choice, bool) { return c, true }
}

func (s *Switch) choose(x asked) Choice {
	for _, try := range s.row {
		if c, holds := try(x); holds {
			return c
		}
	}
	return Choice{Clause: nowhere, Term: byDefault}
}

// Pick is what it chooses for an error.
func (s *Switch) Pick(b *book.Book, h int) (Choice, api.Errno) {
	if s == nil {
		return Choice{}, api.ErrNil
	}
	x, e := ask(b, h)
	if e != api.OK {
		return Choice{}, e
	}
	return s.choose(x), api.OK
}

// Len is how many clauses there are.
func (s *Switch) Len() int {
	if s == nil {
		return 0
	}
	return s.clauses
}
