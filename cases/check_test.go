package cases_test

import (
	"math/rand"
	"testing"

	"errata/api"
	"errata/book"
	"errata/cases"
)

// sayWrong holds each call that takes clauses against what is wrong with them, which is something.
func sayWrong(t *testing.T, l []cases.Clause, at int, want api.Errno) {
	t.Helper()
	if i, e := cases.Check(l); i != at || e != want {
		t.Errorf("Check(%v): %d %d, not %d %d", short(l), i, e, at, want)
	}
	b := book.New()
	if c, e := cases.Pick(b, 0, l); c != (cases.Choice{}) || e != want {
		t.Errorf("Pick: %v %d, not %d", c, e, want)
	}
	for _, h := range badHandles(0) {
		if c, e := cases.Pick(b, h, l); c != (cases.Choice{}) || e != api.ErrHandle {
			t.Errorf("Pick(%d): %v %d", h, c, e)
		}
	}
	if c, e := cases.Pick(nil, 7, l); c != (cases.Choice{}) || e != api.ErrNil {
		t.Errorf("Pick(nil): %v %d", c, e)
	}
	for _, clause := range []int{0, -1, len(l), 1 << 40} {
		if bound, e := cases.Bound(l, clause); bound != (cases.Term{}) || e != want {
			t.Errorf("Bound(%d): %v %d, not %d", clause, bound, e, want)
		}
	}
	if table, e := cases.Table(l); table != [27]int{} || e != want {
		t.Errorf("Table: %v %d, not %d", table, e, want)
	}
	if dead, e := cases.Dead(l); dead != nil || e != want {
		t.Errorf("Dead: %v %d, not %d", dead, e, want)
	}
	if kept, e := cases.Trim(l); kept != nil || e != want {
		t.Errorf("Trim: %v %d, not %d", kept, e, want)
	}
	if s, e := cases.Compile(l); s != nil || e != want {
		t.Errorf("Compile: %v %d, not %d", s, e, want)
	}
	sayNotSame(t, l, nil, want)
	sayNotSame(t, nil, l, want)
	sayNotSame(t, l, l, want)
}

func sayNotSame(t *testing.T, l, m []cases.Clause, want api.Errno) {
	t.Helper()
	if same, e := cases.Same(l, m); same || e != want {
		t.Errorf("Same: %t %d, not %d", same, e, want)
	}
}

// short are the first clauses, as many as a message has room for.
func short(l []cases.Clause) []cases.Clause { return l[:min(len(l), 6)] }

func sayRight(t *testing.T, l []cases.Clause) {
	t.Helper()
	if at, e := cases.Check(l); at != 0 || e != api.OK {
		t.Errorf("Check(%v): %d %d", short(l), at, e)
	}
}

// many are clauses of a term each, the terms of all numbers in turn; behind the first 46 all terms stand for the second time.
func many(n int) []cases.Clause {
	all := allTerms()
	var l []cases.Clause
	for i := range n {
		l = append(l, when(i, all[i%len(all)]))
	}
	return l
}

func TestP9_1Examples(t *testing.T) {
	isCode, isGrader := kind(api.KindCode), face(api.FaceGrader)
	sayWrong(t, []cases.Clause{when(1, kind(27))}, 0, api.ErrCase)
	sayWrong(t, []cases.Clause{other(1), other(2)}, 1, api.ErrAgain)
	sayWrong(t, []cases.Clause{when(1, isCode), when(2, isGrader), when(1, isCode)}, 2, api.ErrAgain)
	sayWrong(t, []cases.Clause{when(1)}, 0, api.ErrCase)
	sayWrong(t, many(65), 0, api.ErrArg)
	sayRight(t, nil)
	sayRight(t, []cases.Clause{})
	sayRight(t, []cases.Clause{when(1, isGrader), other(2), when(1, isCode)})
	sayRight(t, []cases.Clause{{Default: true, Terms: []cases.Term{}}})
	sayRight(t, []cases.Clause{when(1, allTerms()...), other(1)})
}

// TestP9_1Terms: of all terms that may be written those that ask for none of the three are refused.
func TestP9_1Terms(t *testing.T) {
	for k := range 256 {
		for f := range 256 {
			l := []cases.Clause{when(3, cases.Term{Kind: uint8(k), Face: uint8(f)})}
			at, e := cases.Check(l)
			want := api.OK
			if k > 26 || f > 19 || k > 0 && f > 0 {
				want = api.ErrCase
			}
			if at != 0 || e != want {
				t.Fatalf("Check of a term %d, %d: %d %d", k, f, at, e)
			}
		}
	}
}

func TestP9_1TooMany(t *testing.T) {
	sayRight(t, many(46))
	sayWrong(t, many(64), 46, api.ErrAgain)
	sayWrong(t, many(65), 0, api.ErrArg)
	sayWrong(t, append(make([]cases.Clause, 64), other(1)), 0, api.ErrArg)
	sayWrong(t, make([]cases.Clause, 64), 0, api.ErrCase)
	twice := []cases.Term{kind(1), kind(1)}
	for _, c := range []struct {
		l  []cases.Clause
		at int
		e  api.Errno
	}{
		{[]cases.Clause{other(1), when(1, make([]cases.Term, 256)...)}, 1, api.ErrAgain},
		{[]cases.Clause{other(1), when(1, make([]cases.Term, 257)...)}, 0, api.ErrArg},
		{[]cases.Clause{when(1, kind(1)), other(1), when(1, make([]cases.Term, 255)...)}, 2, api.ErrAgain},
		{[]cases.Clause{when(1, kind(1)), other(1), when(1, make([]cases.Term, 256)...)}, 0, api.ErrArg},
		{[]cases.Clause{when(1, twice...), {Default: true, Terms: make([]cases.Term, 255)}}, 0, api.ErrArg}, // those of a default that may not be count, too
		{[]cases.Clause{when(1, twice...), {Default: true, Terms: make([]cases.Term, 254)}}, 0, api.ErrAgain},
	} {
		sayWrong(t, c.l, c.at, c.e)
	}
}

// TestP9_1First: of clauses the first with which something is wrong is told, of what is wrong with it ErrCase ahead of ErrAgain.
func TestP9_1First(t *testing.T) {
	isCode, isNone := kind(1), cases.Term{Kind: 1, Face: 1}
	again := when(2, isCode)
	sayWrong(t, []cases.Clause{when(1, isCode), again, when(3)}, 1, api.ErrAgain)
	sayWrong(t, []cases.Clause{when(1, isCode), when(3), again}, 1, api.ErrCase)
	sayWrong(t, []cases.Clause{when(1, isCode), when(3, isCode, isNone)}, 1, api.ErrCase)
	sayWrong(t, []cases.Clause{when(1, isCode), when(3, isNone, isCode)}, 1, api.ErrCase)
	sayWrong(t, []cases.Clause{other(1), {Default: true, Terms: []cases.Term{isCode}}}, 1, api.ErrCase)
	sayWrong(t, []cases.Clause{when(1, isCode), {Default: true, Terms: []cases.Term{isCode}}}, 1, api.ErrCase)
	sayWrong(t, []cases.Clause{{Default: true, Terms: []cases.Term{isNone}}}, 0, api.ErrCase)
	sayWrong(t, []cases.Clause{when(1, kind(2), isCode, kind(2))}, 0, api.ErrAgain)
	sayWrong(t, []cases.Clause{when(1, noError), when(1, face(19), noError)}, 1, api.ErrAgain)
	sayWrong(t, []cases.Clause{other(1), when(1, isCode), other(1)}, 2, api.ErrAgain)
	sayRight(t, []cases.Clause{when(1, kind(3)), when(1, face(3)), when(1, noError)}) // the same number, and not the same term
}

// TestP9_1Drawn: switches that were spoilt here and there are told as the chapter says.
func TestP9_1Drawn(t *testing.T) {
	draw := rand.New(rand.NewSource(91))
	told := map[api.Errno]int{}
	for range 4000 {
		l := drawn(draw)
		for range draw.Intn(4) {
			spoil(draw, l)
		}
		at, want := wrongWith(l)
		told[want]++
		if want == api.OK {
			sayRight(t, l)
		} else {
			sayWrong(t, l, at, want)
		}
		if t.Failed() {
			return
		}
	}
	for _, e := range []api.Errno{api.OK, api.ErrArg, api.ErrCase, api.ErrAgain} {
		if told[e] < 100 {
			t.Errorf("%d was told %d times", e, told[e])
		}
	}
}

// spoil changes a clause of those that there are.
func spoil(draw *rand.Rand, l []cases.Clause) {
	if len(l) == 0 {
		return
	}
	clause := &l[draw.Intn(len(l))]
	one := l[draw.Intn(len(l))]
	switch draw.Intn(7) {
	case 0:
		clause.Default = !clause.Default
	case 1:
		clause.Terms = nil
	case 2:
		clause.Terms = append(clause.Terms, one.Terms...)
	case 3:
		clause.Terms = append(clause.Terms, cases.Term{Kind: uint8(draw.Intn(40)), Face: uint8(draw.Intn(2))})
	case 4:
		clause.Terms = append(clause.Terms, cases.Term{Face: uint8(draw.Intn(30))})
	case 5:
		*clause = one
	case 6:
		clause.Terms = append(clause.Terms, make([]cases.Term, draw.Intn(512))...)
	}
}

// TestP9_5RefusedInOrder: what is wrong with the first clauses is told ahead of what is wrong with the others.
func TestP9_5RefusedInOrder(t *testing.T) {
	tooMany, noCase := many(65), []cases.Clause{when(1)}
	again := []cases.Clause{other(1), other(1)}
	sayNotSame(t, tooMany, noCase, api.ErrArg)
	sayNotSame(t, noCase, tooMany, api.ErrCase)
	sayNotSame(t, again, noCase, api.ErrAgain)
	sayNotSame(t, noCase, again, api.ErrCase)
}

func TestP9_2RefusedHandles(t *testing.T) {
	b := book.New()
	l := []cases.Clause{other(1)}
	s, _ := cases.Compile(l)
	for n := range 3 {
		for _, h := range badHandles(n) {
			if c, e := cases.Pick(b, h, l); c != (cases.Choice{}) || e != api.ErrHandle {
				t.Errorf("Pick(%d): %v %d", h, c, e)
			}
			if c, e := s.Pick(b, h); c != (cases.Choice{}) || e != api.ErrHandle {
				t.Errorf("Switch.Pick(%d): %v %d", h, c, e)
			}
		}
		give(t, b, api.Spec{Kind: api.KindNote})
	}
}

func TestR1Nil(t *testing.T) {
	l := []cases.Clause{other(1)}
	s, _ := cases.Compile(l)
	var none *cases.Switch
	b := book.New()
	for _, h := range []int{0, 1, -1, 1 << 40} {
		if c, e := cases.Pick(nil, h, l); c != (cases.Choice{}) || e != api.ErrNil {
			t.Errorf("Pick(nil, %d): %v %d", h, c, e)
		}
		for _, pick := range []func() (cases.Choice, api.Errno){
			func() (cases.Choice, api.Errno) { return s.Pick(nil, h) },
			func() (cases.Choice, api.Errno) { return none.Pick(b, h) },
			func() (cases.Choice, api.Errno) { return none.Pick(nil, h) },
		} {
			if c, e := pick(); c != (cases.Choice{}) || e != api.ErrNil {
				t.Errorf("Switch.Pick(%d): %v %d", h, c, e)
			}
		}
	}
	if none.Len() != 0 {
		t.Error("Len of a nil Switch:", none.Len())
	}
}

// TestR1Bare: of what was not made by its package's calls nothing is promised but that no call panics.
func TestR1Bare(t *testing.T) {
	count := func(int, []int) int { return 1 }
	made, _ := cases.Compile([]cases.Clause{when(1, face(1)), other(2)})
	full := book.New()
	give(t, full, api.Spec{Kind: api.KindNote})
	for _, s := range []*cases.Switch{{}, made} {
		for _, b := range []*book.Book{{}, full} {
			for _, h := range []int{0, 1, 2, -1} {
				s.Pick(b, h)
				cases.Pick(b, h, []cases.Clause{when(1, face(1), kind(1), noError)})
				for n := range 4 {
					cases.Fold(b, h, s, []func(int, []int) int{count, count, count}[:min(n, 3)])
				}
			}
		}
		s.Len()
	}
}
