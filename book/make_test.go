package book_test

import (
	"math"
	"slices"
	"strings"
	"testing"

	"errata/api"
	"errata/book"
	"errata/kinds"
)

func TestP5_1New(t *testing.T) {
	b, c := book.New(), book.New()
	if b == nil || b.Len() != 0 || c.Len() != 0 {
		t.Fatal("a new book has errors")
	}
	if give(t, b, api.Spec{Kind: 1}) != 1 || give(t, b, api.Spec{Kind: 1}) != 2 || give(t, c, api.Spec{Kind: 1}) != 1 || b.Len() != 2 {
		t.Error("two books are one")
	}
}

func TestP5_1EveryKind(t *testing.T) {
	b := everyKind(t)
	seen := map[uint8]int{}
	for h := 1; h <= b.Len(); h++ {
		seen[specOf(t, b, h).Kind]++
	}
	if len(seen) != 26 {
		t.Error("kinds:", len(seen))
	}
}

func TestP5_1Drawn(t *testing.T) {
	came := map[api.Errno]int{}
	for seed := range int64(40) {
		b, m := someBook(t, seed, 200)
		for h := 1; h <= b.Len(); h++ {
			if !sameSpec(specOf(t, b, h), m.spec(h)) {
				t.Fatalf("%d is of %+v, not %+v", h, specOf(t, b, h), m.spec(h))
			}
		}
		for e, n := range m.came {
			came[e] += n
		}
	}
	for _, e := range []api.Errno{api.OK, api.ErrHandle, api.ErrKind, api.ErrPart, api.ErrSize, api.ErrDeep, api.ErrText} {
		if came[e] < 5 {
			t.Errorf("%d came %d times", e, came[e])
		}
	}
}

func TestP5_1Examples(t *testing.T) {
	b := book.New()
	if give(t, b, api.Spec{Kind: api.KindCode, Number: 7}) != 1 || wrap(t, b, "w", 1) != 2 || join(t, b, 1, 2, 0) != 3 {
		t.Fatal("handles")
	}
	sayRefused(t, b, "a Wrap about 9", api.Spec{Kind: api.KindWrap, Parts: []int{9}}, api.ErrHandle)
	sayRefused(t, b, "a Wrap about -1", api.Spec{Kind: api.KindWrap, Parts: []int{-1}}, api.ErrHandle)
	sayRefused(t, b, "no kind", api.Spec{Kind: 27}, api.ErrKind)
	sayRefused(t, b, "a Code with a part", api.Spec{Kind: api.KindCode, Parts: []int{1}}, api.ErrPart)
	c, ok := errorOf(t, b, 1).(kinds.Code)
	if !ok || c != 7 {
		t.Error("1 is", c, ok)
	}
	one, ok := errorOf(t, b, 2).(api.One)
	if !ok || one.Unwrap() != error(kinds.Code(7)) {
		t.Error("2 is about something else")
	}
}

// TestP5_1Handles: a part is 0 or a handle of the book, and not its own one to be.
func TestP5_1Handles(t *testing.T) {
	b := book.New()
	sayRefused(t, b, "a Wrap about itself", api.Spec{Kind: api.KindWrap, Parts: []int{1}}, api.ErrHandle)
	note(t, b, "n")
	note(t, b, "m")
	for _, bad := range []int{-1, 3, 4, 65537, math.MaxInt, math.MinInt, math.MinInt32, -2} {
		for _, parts := range [][]int{{bad}, {1, bad}, {bad, 0}, {1, 0, 2, bad, 1}} {
			sayRefused(t, b, "a Join", api.Spec{Kind: api.KindJoin, Parts: parts}, api.ErrHandle)
		}
	}
	for _, parts := range [][]int{nil, {}, {0}, {0, 0}, {1, 1, 1}, {2, 0, 1}} {
		h := join(t, b, parts...)
		if got := specOf(t, b, h).Parts; !slices.Equal(got, parts) {
			t.Errorf("Parts: %v, not %v", got, parts)
		}
	}
}

// TestP5_1WhatKindsSays: what kinds.Make refuses is refused likewise.
func TestP5_1WhatKindsSays(t *testing.T) {
	b := book.New()
	code := give(t, b, api.Spec{Kind: api.KindCode})
	for _, s := range []api.Spec{
		{}, {Kind: 27}, {Kind: 255}, {Kind: 1, Text: "x"}, {Kind: 1, Nil: true}, {Kind: 5, Text: "abc"}, {Kind: 23}, {Kind: 26},
		{Kind: 2, Text: strings.Repeat("x", 4097)}, {Kind: 12, Items: make([]string, 65)}, {Kind: 3, Im: math.Copysign(0, -1)},
	} {
		sayRefused(t, b, "a bad spec", s, api.ErrKind)
	}
	for _, s := range []api.Spec{
		{Kind: 1, Parts: []int{0}}, {Kind: 14, Parts: []int{code, code}}, {Kind: 16, Parts: make([]int, 65)}, {Kind: 16, Nil: true, Parts: []int{0}},
		{Kind: 18, Parts: []int{code}}, {Kind: 25, Parts: []int{code}}, {Kind: 16, Parts: make([]int, 100000)},
	} {
		sayRefused(t, b, "bad parts", s, api.ErrPart)
	}
	for _, s := range []api.Spec{{Kind: 18, Parts: []int{0}}, {Kind: 25, Parts: []int{0}}, {Kind: 16, Parts: make([]int, 64)}} {
		give(t, b, s)
	}
}

// crowded is a full book with errors that are as great as they may be, each in one way.
type crowded struct {
	*book.Book
	big, deep, long, wordy int
}

func crowd(t *testing.T) crowded {
	t.Helper()
	b := book.New()
	c := crowded{Book: b, big: bigOne(t, b), deep: deepOne(t, b), long: longOne(t, b), wordy: wordyOne(t, b)}
	for b.Len() < api.MaxBook {
		give(t, b, api.Spec{Kind: api.KindCode, Number: int16(b.Len())})
	}
	return c
}

// bigOne has a size of 4096.
func bigOne(t *testing.T, b *book.Book) int {
	t.Helper()
	leaf := note(t, b, "")
	row := join(t, b, slices.Repeat([]int{leaf}, 63)...)
	less := join(t, b, slices.Repeat([]int{leaf}, 62)...)
	return join(t, b, append(slices.Repeat([]int{row}, 63), less)...)
}

// deepOne has a depth of 64.
func deepOne(t *testing.T, b *book.Book) int {
	t.Helper()
	h := 0
	for range 64 {
		h = give(t, b, api.Spec{Kind: api.KindHold, Text: "d", Parts: []int{h}})
	}
	return h
}

// longOne has a length of 65536.
func longOne(t *testing.T, b *book.Book) int {
	t.Helper()
	most, rest := note(t, b, strings.Repeat("l", 4096)), note(t, b, strings.Repeat("l", 4096-15))
	return join(t, b, append(slices.Repeat([]int{most}, 15), rest)...)
}

// wordyOne has 1048576 words, and a short text.
func wordyOne(t *testing.T, b *book.Book) int {
	t.Helper()
	bag := give(t, b, api.Spec{Kind: api.KindBag, Items: slices.Repeat([]string{strings.Repeat("i", 4096)}, 64)})
	return join(t, b, bag, bag, 0, bag, bag)
}

// TestP5_1Order: of several errors the one that the table names first.
func TestP5_1Order(t *testing.T) {
	c := crowd(t)
	past := c.Len() + 1
	too := strings.Repeat("x", 4097)
	all := []int{c.wordy, c.long, c.deep, c.big}
	for _, x := range []struct {
		what string
		s    api.Spec
		e    api.Errno
	}{
		{"no kind about none", api.Spec{Kind: 27, Parts: []int{past}}, api.ErrHandle},
		{"a Code about none", api.Spec{Kind: 1, Text: too, Parts: []int{0, c.big, -1}}, api.ErrHandle},
		{"a nil Wrap about none", api.Spec{Kind: 14, Nil: true, Parts: []int{past}}, api.ErrHandle},
		{"two parts, one is none", api.Spec{Kind: 14, Parts: []int{c.deep, past}}, api.ErrHandle},
		{"many parts, one is none", api.Spec{Kind: 16, Parts: append(make([]int, 70), past)}, api.ErrHandle},
		{"a great Join with one that is none", api.Spec{Kind: 16, Parts: append(slices.Clone(all), past)}, api.ErrHandle},
		{"no kind about all", api.Spec{Kind: 27, Parts: all}, api.ErrKind},
		{"a long Text about two", api.Spec{Kind: 14, Text: too, Parts: all}, api.ErrKind},
		{"a Code about a deep one", api.Spec{Kind: 1, Parts: []int{c.deep}}, api.ErrPart},
		{"a Wrap about two", api.Spec{Kind: 14, Parts: []int{c.deep, c.big}}, api.ErrPart},
		{"a Placed about a great Join", api.Spec{Kind: 18, Parts: []int{c.big}}, api.ErrPart},
		{"a Full about a deep Hold", api.Spec{Kind: 25, Parts: []int{c.deep}}, api.ErrPart},
		{"too many parts", api.Spec{Kind: 16, Parts: slices.Repeat([]int{c.long}, 65)}, api.ErrPart},
		{"all at once", api.Spec{Kind: 16, Parts: all}, api.ErrSize},
		{"big and long", api.Spec{Kind: 16, Parts: []int{c.long, c.big}}, api.ErrSize},
		{"big and wordy", api.Spec{Kind: 26, Items: []string{"n"}, Parts: []int{c.wordy, c.big}}, api.ErrSize},
		{"deep and long", api.Spec{Kind: 16, Parts: []int{c.long, c.deep}}, api.ErrDeep},
		{"deep and wordy", api.Spec{Kind: 16, Parts: []int{c.wordy, c.deep}}, api.ErrDeep},
		{"deep", api.Spec{Kind: 20, Parts: []int{c.deep}}, api.ErrDeep},
		{"long", api.Spec{Kind: 20, Parts: []int{c.long}}, api.ErrText},
		{"wordy", api.Spec{Kind: 15, Text: "x", Parts: []int{c.wordy}}, api.ErrText},
		{"long and wordy", api.Spec{Kind: 16, Parts: []int{c.long, c.wordy}}, api.ErrText},
		{"a Code", api.Spec{Kind: 1}, api.ErrFull},
		{"a Hold about a long one", api.Spec{Kind: 13, Parts: []int{c.long}}, api.ErrFull},
		{"an Over about a wordy one", api.Spec{Kind: 15, Parts: []int{c.wordy}}, api.ErrFull},
	} {
		sayRefused(t, c.Book, x.what, x.s, x.e)
		sayRefused(t, nil, x.what+" in a nil book", x.s, api.ErrNil)
	}
}

// TestP5_1WhatIsRefused leaves nothing behind: the next handle is the next one, whatever was refused.
func TestP5_1WhatIsRefused(t *testing.T) {
	b := book.New()
	note(t, b, "n")
	deep := deepOne(t, b)
	for _, s := range []api.Spec{{Kind: 27}, {Kind: 1, Parts: []int{1}}, {Kind: 14, Parts: []int{99}}, {Kind: 14, Parts: []int{deep}}} {
		if h, e := b.Make(s); h != 0 || e == api.OK {
			t.Errorf("Make of kind %d: %d %d", s.Kind, h, e)
		}
		if h := note(t, b, "m"); h != b.Len() || specOf(t, b, h).Text != "m" {
			t.Error("the next handle is not the next one")
		}
	}
}
