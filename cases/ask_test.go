package cases_test

import (
	"math/rand"
	"reflect"
	"slices"
	"testing"

	"errata/api"
	"errata/book"
	"errata/cases"
)

// sayPick holds both ways to pick against what is to be chosen.
func sayPick(t *testing.T, b *book.Book, h int, l []cases.Clause, want cases.Choice) {
	t.Helper()
	if c, e := cases.Pick(b, h, l); c != want || e != api.OK {
		t.Errorf("Pick(%d, %v): %v %d, not %v", h, l, c, e, want)
	}
	s, e := cases.Compile(l)
	if e != api.OK || s == nil || s.Len() != len(l) {
		t.Fatalf("Compile(%v): %d, %d clauses", l, e, s.Len())
	}
	for range 2 {
		if c, e := s.Pick(b, h); c != want || e != api.OK {
			t.Errorf("Compile(%v).Pick(%d): %v %d, not %v", l, h, c, e, want)
		}
	}
}

func sayDead(t *testing.T, l []cases.Clause, want ...cases.Choice) {
	t.Helper()
	if dead, e := cases.Dead(l); !slices.Equal(dead, want) || e != api.OK {
		t.Errorf("Dead(%v): %v %d, not %v", l, dead, e, want)
	}
}

func sayTrim(t *testing.T, l []cases.Clause, want []cases.Clause) {
	t.Helper()
	if kept, e := cases.Trim(l); !sameClauses(kept, want) || e != api.OK {
		t.Errorf("Trim(%v): %v %d, not %v", l, kept, e, want)
	}
}

// sameClauses tells nil and empty lists not apart.
func sameClauses(l, m []cases.Clause) bool {
	return slices.EqualFunc(l, m, func(x, y cases.Clause) bool {
		return slices.Equal(x.Terms, y.Terms) && x.Default == y.Default && x.To == y.To
	})
}

func saySame(t *testing.T, l, m []cases.Clause, want bool) {
	t.Helper()
	for range 2 {
		if same, e := cases.Same(l, m); same != want || e != api.OK {
			t.Errorf("Same(%v, %v): %t %d, not %t", l, m, same, e, want)
		}
		l, m = m, l
	}
}

func sayTable(t *testing.T, l []cases.Clause) {
	t.Helper()
	var want [27]int
	for k := range want {
		want[k] = chosenFor(l, uint8(k)).Clause
	}
	if table, e := cases.Table(l); table != want || e != api.OK {
		t.Errorf("Table(%v): %v %d, not %v", l, table, e, want)
	}
}

func TestP9_2Examples(t *testing.T) {
	b := book.New()
	code := give(t, b, api.Spec{Kind: api.KindCode, Number: 7})
	plain := give(t, b, api.Spec{Kind: api.KindPlain, Nil: true})
	full := give(t, b, api.Spec{Kind: api.KindFull})
	isCode, isGrader := kind(api.KindCode), face(api.FaceGrader)
	sayPick(t, b, code, []cases.Clause{when(1, isCode), when(2, isGrader)}, choice(0, 0, 1))
	sayPick(t, b, code, []cases.Clause{when(2, isGrader), when(1, isCode)}, choice(0, 0, 2))
	sayPick(t, b, code, []cases.Clause{when(1, kind(api.KindNote))}, nothing)
	sayPick(t, b, 0, []cases.Clause{when(1, face(api.FaceAny)), when(2, noError)}, choice(1, 0, 2))
	sayPick(t, b, 0, []cases.Clause{when(1, face(api.FaceAny)), other(3)}, choice(1, -1, 3))
	sayPick(t, b, plain, []cases.Clause{when(1, noError), when(2, kind(api.KindPlain))}, choice(1, 0, 2))
	sayPick(t, b, full, []cases.Clause{other(9), when(1, face(api.FaceCoder))}, choice(1, 0, 1))
}

func TestP9_2SeveralTerms(t *testing.T) {
	b := book.New()
	code := give(t, b, api.Spec{Kind: api.KindCode})
	l := []cases.Clause{other(5), when(6, kind(2), face(3), noError), when(7, kind(3), kind(1), face(2)), when(8, face(1))}
	sayPick(t, b, code, l, choice(2, 1, 7))
	sayPick(t, b, 0, l, choice(1, 2, 6))
	sayPick(t, b, give(t, b, api.Spec{Kind: api.KindCoded}), l, choice(1, 1, 6))
	sayPick(t, b, give(t, b, api.Spec{Kind: api.KindLine}), l, choice(3, 0, 8))
	sayPick(t, b, code, []cases.Clause{when(6, kind(2), face(3)), other(5), when(7, face(18))}, choice(1, -1, 5))
	sayPick(t, b, code, nil, nothing)
	sayPick(t, b, 0, nil, nothing)
	sayPick(t, b, 0, []cases.Clause{other(-1 << 63)}, choice(0, -1, -1<<63))
}

// TestP9_2Box: a Box is of its kind, whichever of the three it is.
func TestP9_2Box(t *testing.T) {
	b := book.New()
	l := []cases.Clause{when(1, kind(api.KindBox)), other(2)}
	for n := int16(1); n <= 3; n++ {
		sayPick(t, b, give(t, b, api.Spec{Kind: api.KindBox, Number: n}), l, choice(0, 0, 1))
	}
	sayPick(t, b, give(t, b, api.Spec{Kind: api.KindBox, Number: 3, Nil: true}), l, choice(0, 0, 1))
}

// TestP9_2Each: of each error each term by itself, and drawn switches, hold as the tables say.
func TestP9_2Each(t *testing.T) {
	b := allKinds(t)
	draw := rand.New(rand.NewSource(92))
	for h := range b.Len() + 1 {
		k := uint8(0)
		if h > 0 {
			k, _ = b.Kind(h)
		}
		for _, term := range allTerms() {
			want := nothing
			if holds(term, k) {
				want = choice(0, 0, -4)
			}
			sayPick(t, b, h, []cases.Clause{when(-4, term)}, want)
		}
		for range 20 {
			l := drawn(draw)
			sayPick(t, b, h, l, chosenFor(l, k))
		}
		if t.Failed() {
			return
		}
	}
}

// TestP9_2AsTheyWereThen: a Switch goes on with the clauses of which it was made.
func TestP9_2AsTheyWereThen(t *testing.T) {
	b := book.New()
	code := give(t, b, api.Spec{Kind: api.KindCode})
	l := []cases.Clause{when(1, kind(2), kind(1)), other(2)}
	s, _ := cases.Compile(l)
	l[0].Terms[1] = kind(3)
	l[0].To = 9
	l[1] = when(8, noError)
	for h, want := range map[int]cases.Choice{code: choice(0, 1, 1), 0: choice(1, -1, 2)} {
		if c, e := s.Pick(b, h); c != want || e != api.OK {
			t.Errorf("Pick(%d): %v %d", h, c, e)
		}
	}
	clear(l)
	if c, _ := s.Pick(b, code); c != choice(0, 1, 1) || s.Len() != 2 {
		t.Error("behind a change of its clauses:", c, s.Len())
	}
	later := give(t, b, api.Spec{Kind: api.KindNote})
	if c, e := s.Pick(b, later); c != choice(0, 0, 1) || e != api.OK {
		t.Error("for an error made behind it:", c, e)
	}
	if c, e := s.Pick(allKinds(t), 1); c != choice(1, -1, 2) || e != api.OK {
		t.Error("for an error of another book:", c, e)
	}
}

func TestP9_3Bound(t *testing.T) {
	isCode, isNote := kind(api.KindCode), kind(api.KindNote)
	asError := cases.Term{Face: api.FaceError}
	for _, c := range []struct {
		l      []cases.Clause
		clause int
		want   cases.Term
		e      api.Errno
	}{
		{[]cases.Clause{when(1, isCode)}, 0, isCode, api.OK},
		{[]cases.Clause{when(1, isCode, isNote)}, 0, asError, api.OK},
		{[]cases.Clause{other(1)}, 0, asError, api.OK},
		{[]cases.Clause{when(1, isCode)}, 1, cases.Term{}, api.ErrArg},
		{[]cases.Clause{when(1, isCode)}, -1, cases.Term{}, api.ErrArg},
		{nil, 0, cases.Term{}, api.ErrArg},
		{[]cases.Clause{when(1, noError), when(2, face(19))}, 0, noError, api.OK},
		{[]cases.Clause{when(1, noError), when(2, face(19))}, 1, face(19), api.OK},
		{[]cases.Clause{when(1, noError, isCode), when(2, face(19))}, 0, asError, api.OK},
		{[]cases.Clause{when(1, face(19)), when(2, isNote)}, 1, isNote, api.OK}, // dead, and bound all the same
		{[]cases.Clause{when(1, face(19)), when(2, isNote)}, -1 << 63, cases.Term{}, api.ErrArg},
		{[]cases.Clause{when(1, face(19)), when(2, isNote)}, 1<<63 - 1, cases.Term{}, api.ErrArg},
		{[]cases.Clause{when(1, face(20))}, 0, cases.Term{}, api.ErrCase},
		{[]cases.Clause{when(1, isNote), when(1, isNote)}, 5, cases.Term{}, api.ErrAgain},
	} {
		if bound, e := cases.Bound(c.l, c.clause); bound != c.want || e != c.e {
			t.Errorf("Bound(%v, %d): %v %d", c.l, c.clause, bound, e)
		}
	}
	for _, term := range allTerms() {
		if bound, e := cases.Bound([]cases.Clause{other(0), when(1, term)}, 1); bound != term || e != api.OK {
			t.Errorf("Bound of %v alone: %v %d", term, bound, e)
		}
	}
}

func TestP9_4Examples(t *testing.T) {
	isError, isCode := face(api.FaceError), kind(api.KindCode)
	sayDead(t, []cases.Clause{when(1, isError), when(2, isCode), other(3)}, choice(1, 0, 2))
	sayDead(t, []cases.Clause{when(1, face(api.FaceAny)), when(2, noError), other(3)}, choice(2, -1, 3))
	sayDead(t, []cases.Clause{when(1, face(api.FaceNobody))}, choice(0, 0, 1))
	sayDead(t, nil)
	sayDead(t, []cases.Clause{other(3)})
	sayTable(t, nil)
	sayTable(t, []cases.Clause{other(3)})
	sayTable(t, []cases.Clause{when(1, isCode, noError), other(5), when(2, isError)})
}

// TestP9_4Default: a default is dead just if all 26 kinds and no error are chosen by terms.
func TestP9_4Default(t *testing.T) {
	every := allTerms()[:mostKinds+1] // no error, and each kind
	for left := range every {
		terms := slices.Delete(slices.Clone(every), left, left+1)
		sayDead(t, []cases.Clause{other(7), when(1, terms...)})
	}
	sayDead(t, []cases.Clause{other(7), when(1, every...)}, choice(0, -1, 7))
	sayDead(t, []cases.Clause{when(1, every[1:]...), other(7), when(2, face(1), noError)}, choice(1, -1, 7), choice(2, 0, 2))
}

// TestP9_4InOrder: what is dead is told clause by clause, term by term.
func TestP9_4InOrder(t *testing.T) {
	l := []cases.Clause{
		when(4, face(18), face(1), face(19)), other(5), when(6, kind(9), noError, kind(2)), when(6, face(17), kind(1)),
	}
	sayDead(t, l, choice(0, 0, 4), choice(0, 2, 4), choice(1, -1, 5), choice(2, 0, 6), choice(2, 2, 6), choice(3, 0, 6), choice(3, 1, 6))
	sayTrim(t, l, []cases.Clause{when(4, face(1)), when(6, noError)})
}

func TestP9_4Drawn(t *testing.T) {
	draw := rand.New(rand.NewSource(94))
	for range 3000 {
		l := drawn(draw)
		sayTable(t, l)
		sayDead(t, l, deadOf(l)...)
		sayTrim(t, l, trimmedOf(l))
		m := drawn(draw)
		saySame(t, l, m, leadsAlike(l, m))
		if t.Failed() {
			return
		}
	}
}

func TestP9_5Examples(t *testing.T) {
	isError, isCode := face(api.FaceError), kind(api.KindCode)
	sayTrim(t, []cases.Clause{when(1, isError), when(2, isCode), other(3)}, []cases.Clause{when(1, isError), other(3)})
	sayTrim(t, []cases.Clause{when(1, isError), when(2, noError, isCode), other(3)}, []cases.Clause{when(1, isError), when(2, noError)})
	sayTrim(t, []cases.Clause{when(1, face(api.FaceNobody))}, nil)
	sayTrim(t, nil, nil)
	saySame(t, []cases.Clause{when(1, face(api.FaceTimedError))}, []cases.Clause{when(1, face(api.FaceTimer))}, true)
	saySame(t, []cases.Clause{when(1, isCode)}, []cases.Clause{when(1, face(api.FaceKinder))}, false)
}

func TestP9_5Same(t *testing.T) {
	isCode := kind(api.KindCode)
	saySame(t, nil, nil, true)
	saySame(t, nil, []cases.Clause{when(0, face(api.FaceNobody))}, true)
	saySame(t, nil, []cases.Clause{when(0, isCode)}, false) // nothing is unlike a clause whose To is 0
	saySame(t, nil, []cases.Clause{other(0)}, false)
	saySame(t, []cases.Clause{when(1, isCode)}, []cases.Clause{when(2, isCode)}, false)
	saySame(t, []cases.Clause{when(1, isCode)}, []cases.Clause{when(2, kind(2)), when(1, isCode)}, false)
	saySame(t, []cases.Clause{when(1, isCode, kind(2)), other(1)}, []cases.Clause{other(1)}, true)
	saySame(t, []cases.Clause{when(1, noError)}, []cases.Clause{when(0, face(18)), when(1, noError)}, true)
	saySame(t, []cases.Clause{when(1, noError), other(1)}, []cases.Clause{when(1, face(1)), when(1, noError)}, true)
	saySame(t, []cases.Clause{when(1, face(1))}, []cases.Clause{when(1, face(19))}, true)
	saySame(t, []cases.Clause{other(1)}, []cases.Clause{when(1, face(19))}, false) // they differ for no error alone
}

// TestP9_4Arrays: a table that was told is the asker's own.
func TestP9_4Arrays(t *testing.T) {
	l := []cases.Clause{when(1, kind(1))}
	first, _ := cases.Table(l)
	second := first
	clear(first[:])
	if third, _ := cases.Table(l); second != third || second[1] != 0 || second[0] != -1 || reflect.DeepEqual(first, second) {
		t.Error("tables are shared:", first, second, third)
	}
}
