package cases_test

import (
	"math/rand"
	"slices"
	"strings"
	"testing"

	"errata/api"
	"errata/book"
	"errata/cases"
	"errata/kinds"
)

// What the tests hold package cases against: chapter 4's table of which kind holds which face, the language's own assertions, and a switch that is gone through by the chapter's words.

const (
	mostKinds = 26
	mostFaces = 19
)

var nothing = cases.Choice{Clause: -1, Term: -1}

// kind, face and noError are the three sorts of terms.
func kind(n uint8) cases.Term { return cases.Term{Kind: n} }
func face(n uint8) cases.Term { return cases.Term{Face: n} }

var noError = cases.Term{}

// when is a clause of terms, other is a default.
func when(to int, terms ...cases.Term) cases.Clause { return cases.Clause{Terms: terms, To: to} }
func other(to int) cases.Clause                     { return cases.Clause{Default: true, To: to} }

func choice(clause, term, to int) cases.Choice {
	return cases.Choice{Clause: clause, Term: term, To: to}
}

// allTerms are all that may be: 26 kinds, 19 faces, no error.
func allTerms() []cases.Term {
	all := []cases.Term{noError}
	for n := uint8(1); n <= mostKinds; n++ {
		all = append(all, kind(n))
	}
	for n := uint8(1); n <= mostFaces; n++ {
		all = append(all, face(n))
	}
	return all
}

// faceNames has at n - 1 the name of the face n.
var faceNames = strings.Fields("error Grader Coder Weigher Phaser Timer Liner Detailer One Many Judge Lender Kinder Sizer TimedError CodedCause Whole Nobody any")

// faceRows has at n - 1 which faces the kind n holds beside error and any.
var faceRows = []string{
	"Grader Kinder", "Kinder", "Weigher Kinder", "Phaser", "", "Sizer", "", "", "", "Timer TimedError", "Grader Coder", "Detailer", "",
	"One", "One", "Many", "Timer TimedError", "Liner", "Grader Weigher", "", "Judge", "Lender", "", "", "Grader Coder One CodedCause", "Many",
}

// holds says by the tables whether a term holds of a kind, or of no error (0).
func holds(t cases.Term, ofKind uint8) bool {
	switch {
	case t == noError:
		return ofKind == 0
	case ofKind == 0:
		return false
	case t.Face != 0:
		return slices.Contains(strings.Fields(faceRows[ofKind-1]+" error any"), faceNames[t.Face-1])
	}
	return t.Kind == ofKind
}

// chosen is what clauses choose, where holds says of a term whether it does.
func chosen(l []cases.Clause, holds func(cases.Term) bool) cases.Choice {
	found := nothing
	for i, clause := range l {
		if clause.Default {
			found = choice(i, -1, clause.To)
		}
		for k, t := range clause.Terms {
			if holds(t) {
				return choice(i, k, clause.To)
			}
		}
	}
	return found
}

// chosenFor is what clauses choose for no error (0) or for a kind.
func chosenFor(l []cases.Clause, ofKind uint8) cases.Choice {
	return chosen(l, func(t cases.Term) bool { return holds(t, ofKind) })
}

// deadOf are the terms and the default that are chosen for nothing.
func deadOf(l []cases.Clause) []cases.Choice {
	alive := map[cases.Choice]int{}
	for ofKind := range uint8(mostKinds + 1) {
		alive[chosenFor(l, ofKind)]++
	}
	var dead []cases.Choice
	for i, clause := range l {
		if d := choice(i, -1, clause.To); clause.Default && alive[d] == 0 {
			dead = append(dead, d)
		}
		for k := range clause.Terms {
			if d := choice(i, k, clause.To); alive[d] == 0 {
				dead = append(dead, d)
			}
		}
	}
	return dead
}

// trimmedOf are clauses without what is dead.
func trimmedOf(l []cases.Clause) []cases.Clause {
	var out []cases.Clause
	dead := deadOf(l)
	for i, clause := range l {
		kept := cases.Clause{To: clause.To, Default: clause.Default && !slices.Contains(dead, choice(i, -1, clause.To))}
		for k, t := range clause.Terms {
			if !slices.Contains(dead, choice(i, k, clause.To)) {
				kept.Terms = append(kept.Terms, t)
			}
		}
		if kept.Default || kept.Terms != nil {
			out = append(out, kept)
		}
	}
	return out
}

// leadsAlike says whether both choose clauses with the same To for all, or both nothing.
func leadsAlike(l, m []cases.Clause) bool {
	for ofKind := range uint8(mostKinds + 1) {
		x, y := chosenFor(l, ofKind), chosenFor(m, ofKind)
		if (x == nothing) != (y == nothing) || x.To != y.To {
			return false
		}
	}
	return true
}

// wrongWith is what is wrong with clauses, and with which.
func wrongWith(l []cases.Clause) (int, api.Errno) {
	all := 0
	for _, clause := range l {
		all += len(clause.Terms)
	}
	if len(l) > 64 || all > 256 {
		return 0, api.ErrArg
	}
	times := map[cases.Term]int{}
	defaults := 0
	for i, clause := range l {
		e := api.OK
		for _, t := range clause.Terms {
			if times[t]++; times[t] > 1 {
				e = api.ErrAgain
			}
		}
		if clause.Default {
			if defaults++; defaults > 1 {
				e = api.ErrAgain
			}
		}
		if len(clause.Terms) == 0 && !clause.Default || len(clause.Terms) > 0 && clause.Default {
			e = api.ErrCase
		}
		for _, t := range clause.Terms {
			if !slices.Contains(allTerms(), t) {
				e = api.ErrCase
			}
		}
		if e != api.OK {
			return i, e
		}
	}
	return 0, api.OK
}

// drawn is a switch of terms that were drawn, in clauses of one term and more, some with a default, some to the same place.
func drawn(draw *rand.Rand) []cases.Clause {
	terms := allTerms()
	draw.Shuffle(len(terms), func(i, j int) { terms[i], terms[j] = terms[j], terms[i] })
	terms = terms[:draw.Intn(len(terms)+1)]
	if draw.Intn(2) == 0 {
		terms = terms[:min(len(terms), draw.Intn(8))] // few, so that much is left to the default
	}
	var l []cases.Clause
	for len(terms) > 0 {
		n := 1 + draw.Intn(min(len(terms), 4))
		l = append(l, when(draw.Intn(5)-1, slices.Clone(terms[:n])...))
		terms = terms[n:]
	}
	if draw.Intn(2) == 0 {
		l = slices.Insert(l, draw.Intn(len(l)+1), other(draw.Intn(5)-1))
	}
	return l
}

// isOf is the language's assertion to a type.
func isOf[T any](x any) bool {
	_, ok := x.(T)
	return ok
}

// kindTypes has at n - 1 the types of the kind n.
var kindTypes = [][]func(any) bool{
	{isOf[kinds.Code]}, {isOf[kinds.Note]}, {isOf[kinds.Level]}, {isOf[kinds.Sway]}, {isOf[kinds.Mark]}, {isOf[kinds.Tags]}, {isOf[kinds.Lazy]},
	{isOf[kinds.Line]}, {isOf[*kinds.Plain]}, {isOf[*kinds.Quiet]}, {isOf[kinds.Coded]}, {isOf[kinds.Bag]}, {isOf[kinds.Hold]}, {isOf[*kinds.Wrap]},
	{isOf[kinds.Over]}, {isOf[*kinds.Join]}, {isOf[kinds.Timed]}, {isOf[kinds.Placed]}, {isOf[kinds.Twin]}, {isOf[kinds.Veil]}, {isOf[*kinds.Echo]},
	{isOf[*kinds.Guise]}, {isOf[kinds.Box[int8]], isOf[kinds.Box[float64]], isOf[kinds.Box[[]uint8]]}, {isOf[*kinds.Slow]}, {isOf[kinds.Full]}, {isOf[*kinds.Opaque]},
}

// faceTypes has at n - 1 the type of the face n.
var faceTypes = []func(any) bool{
	isOf[error], isOf[api.Grader], isOf[api.Coder], isOf[api.Weigher], isOf[api.Phaser], isOf[api.Timer], isOf[api.Liner], isOf[api.Detailer],
	isOf[api.One], isOf[api.Many], isOf[api.Judge], isOf[api.Lender], isOf[api.Kinder], isOf[api.Sizer], isOf[api.TimedError], isOf[api.CodedCause],
	isOf[api.Whole], isOf[api.Nobody], isOf[any],
}

// holdsOf says by the language's assertions whether a term holds of an error.
func holdsOf(t cases.Term, err error) bool {
	switch {
	case t == noError:
		return err == nil
	case t.Face != 0:
		return faceTypes[t.Face-1](err)
	}
	return slices.ContainsFunc(kindTypes[t.Kind-1], func(is func(any) bool) bool { return is(err) })
}

// give is the handle of a spec that may be.
func give(t *testing.T, b *book.Book, s api.Spec, parts ...int) int {
	t.Helper()
	s.Parts = parts
	h, e := b.Make(s)
	if e != api.OK {
		t.Fatalf("Make of kind %d: %d", s.Kind, e)
	}
	return h
}

func errorOf(t *testing.T, b *book.Book, h int) error {
	t.Helper()
	err, e := b.Error(h)
	if e != api.OK {
		t.Fatalf("Error(%d): %d", h, e)
	}
	return err
}

// bare are specs without parts, of each kind; of a Box of each of its three.
func bare() []api.Spec {
	return []api.Spec{
		{Kind: 1, Number: 300}, {Kind: 2, Text: "n"}, {Kind: 3, Re: 0.5}, {Kind: 4, Re: 1, Im: -2}, {Kind: 5, Text: "\x00\xffa "},
		{Kind: 6, Items: []string{"b", "a"}, Number: 7}, {Kind: 7, Text: "z", Flag: true}, {Kind: 8}, {Kind: 9, Text: "p"}, {Kind: 10, Text: "q", Flag: true},
		{Kind: 11, Number: -3, Text: "c"}, {Kind: 12, Text: "b", Items: []string{"", "i"}}, {Kind: 13, Text: "h"}, {Kind: 14, Text: "w"}, {Kind: 15, Text: "o"},
		{Kind: 16}, {Kind: 17, Flag: true}, {Kind: 18, Number: 4}, {Kind: 19, Number: 5, Re: -1.5}, {Kind: 20}, {Kind: 21, Text: "e", Flag: true},
		{Kind: 22, Text: "g", Number: 9}, {Kind: 23, Number: 1, Small: -5}, {Kind: 23, Number: 2, Re: 2.5}, {Kind: 23, Number: 3, Text: "bytes"},
		{Kind: 24, Text: "s"}, {Kind: 25, Number: 6, Text: "f"}, {Kind: 26, Text: "o", Mask: 1<<32 - 1, Items: []string{"name"}},
	}
}

// nils are specs of all kinds that may be nil.
func nils() []api.Spec {
	all := []api.Spec{{Kind: 23, Number: 3, Nil: true}}
	for _, k := range []uint8{6, 7, 8, 9, 10, 14, 16, 21, 22, 24, 26} {
		all = append(all, api.Spec{Kind: k, Nil: true})
	}
	return all
}

// allKinds is a book with each kind: bare, a nil one where it may be, and about parts of every sort where it has them.
func allKinds(t *testing.T) *book.Book {
	t.Helper()
	b := book.New()
	for _, s := range slices.Concat(nils(), bare()) {
		h := give(t, b, s)
		for _, about := range []uint8{13, 14, 15, 17, 20, 16} {
			give(t, b, api.Spec{Kind: about}, h)
		}
		give(t, b, api.Spec{Kind: 26, Items: []string{"n"}}, h, 0, h)
		switch s.Kind {
		case api.KindPlain:
			give(t, b, api.Spec{Kind: 18, Number: 1}, h)
		case api.KindWrap:
			give(t, b, api.Spec{Kind: 25, Text: "f"}, h)
		}
	}
	return b
}

// badHandles name none in a book of so many errors.
func badHandles(n int) []int {
	return []int{-1, n + 1, n + 2, -n - 1, -1 << 63, 1<<63 - 1, 1 << 32, 1<<32 + 1}
}
