package cases_test

import (
	"math/rand"
	"testing"

	"errata/api"
	"errata/cases"
	"errata/kinds"
)

// written is a type switch of the language beside the clauses that say the same.
type written struct {
	clauses []cases.Clause
	taken   func(err error) int // the To of the clause that it takes; 0 where it takes none
}

// allWritten have kinds ahead of faces, faces ahead of kinds, nil, a default in each place, several types in a case.
func allWritten() []written {
	return []written{
		{[]cases.Clause{when(1, kind(1), face(9)), when(2, noError), when(3, kind(9), kind(14), face(6)), when(4, face(2)), other(5)}, func(err error) int {
			switch err.(type) {
			case kinds.Code, api.One:
				return 1
			case nil:
				return 2
			case *kinds.Plain, *kinds.Wrap, api.Timer:
				return 3
			case api.Grader:
				return 4
			default:
				return 5
			}
		}},
		{[]cases.Clause{other(1), when(2, face(10), kind(23)), when(3, face(17), face(18)), when(4, face(13))}, func(err error) int {
			switch err.(type) {
			default:
				return 1
			case api.Many, kinds.Box[int8], kinds.Box[float64], kinds.Box[[]uint8]:
				return 2
			case api.Whole, api.Nobody:
				return 3
			case api.Kinder:
				return 4
			}
		}},
		{[]cases.Clause{when(1, face(3)), when(2, face(16)), when(3, kind(11)), when(4, face(4)), when(5, face(15)), when(6, kind(18), face(11))}, func(err error) int {
			switch err.(type) {
			case api.Coder:
				return 1
			case api.CodedCause:
				return 2
			case kinds.Coded:
				return 3
			case api.Weigher:
				return 4
			case api.TimedError:
				return 5
			case kinds.Placed, api.Judge:
				return 6
			}
			return 0
		}},
		{[]cases.Clause{when(1, kind(2)), other(2), when(3, face(19)), when(4, noError)}, func(err error) int {
			switch any(err).(type) {
			case kinds.Note:
				return 1
			default:
				return 2
			case any:
				return 3
			case nil:
				return 4
			}
		}},
		{[]cases.Clause{when(1, face(5), face(14)), when(2, face(12), kind(7)), when(3, face(8), face(7)), when(4, face(1))}, func(err error) int {
			switch err.(type) {
			case api.Phaser, api.Sizer:
				return 1
			case api.Lender, kinds.Lazy:
				return 2
			case api.Detailer, api.Liner:
				return 3
			case error:
				return 4
			}
			return 0
		}},
	}
}

// TestP9_7Written: Pick chooses what a switch that is written in the language takes; P1 says the same of the whole.
func TestP9_7Written(t *testing.T) {
	b := allKinds(t)
	for n, w := range allWritten() {
		taken := map[int]int{}
		for h := range b.Len() + 1 {
			want := w.taken(errorOf(t, b, h))
			taken[want]++
			c, e := cases.Pick(b, h, w.clauses)
			if c.To != want || (c.Clause < 0) != (want == 0) || e != api.OK {
				t.Errorf("switch %d, error %d: %v %d, not %d", n, h, c, e, want)
			}
		}
		if len(taken) < 3 {
			t.Error("what was taken:", taken)
		}
	}
}

// TestP9_7Asserted: of each error the first term chooses of which the language's assertion holds.
func TestP9_7Asserted(t *testing.T) {
	b := allKinds(t)
	draw := rand.New(rand.NewSource(97))
	for h := range b.Len() + 1 {
		err := errorOf(t, b, h)
		holds := func(term cases.Term) bool { return holdsOf(term, err) }
		for range 20 {
			l := drawn(draw)
			sayPick(t, b, h, l, chosen(l, holds))
		}
		for _, term := range allTerms() {
			l := []cases.Clause{other(1), when(2, term)}
			sayPick(t, b, h, l, chosen(l, holds))
		}
		if t.Failed() {
			return
		}
	}
}
