package compare_test

import (
	"math"
	"math/rand"
	"testing"

	"errata/api"
	"errata/book"
)

// What the tests hold package compare against: chapter 7's words, written down over the specs alone, without the language's comparing of errors.

// sameIf is Same or Unlike.
func sameIf(same bool) int {
	if same {
		return api.Same
	}
	return api.Unlike
}

// field is one that is compared only where those ahead of it are the Same.
type field func() int

func is(same bool) field { return func() int { return sameIf(same) } }

// firstUnlike is the answer of the first field that is not the Same.
func firstUnlike(fields ...field) int {
	for _, f := range fields {
		if x := f(); x != api.Same {
			return x
		}
	}
	return api.Same
}

// compared is what the chapter says that comparing two errors comes to.
func compared(t *testing.T, b *book.Book, x, y int) int {
	t.Helper()
	if x == 0 || y == 0 {
		return sameIf(x == y)
	}
	s, o := specOf(t, b, x), specOf(t, b, y)
	if s.Kind != o.Kind || s.Kind == api.KindBox && s.Number != o.Number {
		return api.Unlike
	}
	parts := func() int { return compared(t, b, partOf(s), partOf(o)) }
	pointers := is(pointer(t, b, partOf(s)) == pointer(t, b, partOf(o)))
	switch s.Kind {
	case api.KindCode, api.KindNote, api.KindMark, api.KindCoded:
		return sameIf(s.Number == o.Number && s.Text == o.Text)
	case api.KindLevel, api.KindSway:
		return sameIf(s.Re == o.Re && s.Im == o.Im)
	case api.KindTwin:
		return firstUnlike(is(s.Number == o.Number), is(s.Re == o.Re))
	case api.KindTags, api.KindLazy, api.KindBag:
		return api.Panics
	case api.KindBox:
		if s.Number == 3 {
			return api.Panics
		}
		return sameIf(s.Small == o.Small && s.Re == o.Re)
	case api.KindHold, api.KindOver:
		return firstUnlike(is(s.Text == o.Text), parts)
	case api.KindTimed:
		return firstUnlike(parts, is(s.Flag == o.Flag))
	case api.KindVeil:
		return parts()
	case api.KindPlaced:
		return firstUnlike(pointers, is(s.Number == o.Number))
	case api.KindFull:
		return firstUnlike(pointers, is(s.Number == o.Number), is(s.Text == o.Text))
	}
	return sameIf(pointer(t, b, x) == pointer(t, b, y))
}

// pointer is a number for what a pointer points to: its handle, and 0 of a nil one and of no error.
func pointer(t *testing.T, b *book.Book, h int) int {
	t.Helper()
	if h == 0 || specOf(t, b, h).Nil {
		return 0
	}
	return h
}

// partOf is the only part; 0, where there is none.
func partOf(s api.Spec) int {
	if len(s.Parts) == 0 {
		return 0
	}
	return s.Parts[0]
}

// comparedRows is what the chapter says of two rows.
func comparedRows(t *testing.T, b *book.Book, x, y []int) int {
	t.Helper()
	if len(x) != len(y) {
		return api.Unlike
	}
	for i := range x {
		if found := compared(t, b, x[i], y[i]); found != api.Same {
			return found
		}
	}
	return api.Same
}

// hasType tells whether the chapter says that the error's type can be compared.
func hasType(t *testing.T, b *book.Book, h int) bool {
	t.Helper()
	if h == 0 {
		return true
	}
	switch s := specOf(t, b, h); s.Kind {
	case api.KindTags, api.KindLazy, api.KindBag:
		return false
	case api.KindBox:
		return s.Number != 3
	}
	return true
}

// isKey tells whether the chapter says that the error may be a key.
func isKey(t *testing.T, b *book.Book, h int) bool {
	t.Helper()
	if h == 0 {
		return true
	}
	if !hasType(t, b, h) {
		return false
	}
	switch s := specOf(t, b, h); s.Kind {
	case api.KindHold, api.KindOver, api.KindTimed, api.KindVeil:
		return isKey(t, b, partOf(s))
	}
	return true
}

// said is what the language's own == comes to.
func said(x, y error) (outcome int) {
	defer func() {
		if recover() != nil {
			outcome = api.Panics
		}
	}()
	return sameIf(x == y)
}

// give is the handle of a spec that may be.
func give(t *testing.T, b *book.Book, s api.Spec) int {
	t.Helper()
	h, e := b.Make(s)
	if e != api.OK {
		t.Fatalf("Make of kind %d: %d", s.Kind, e)
	}
	return h
}

func giveAbout(t *testing.T, b *book.Book, s api.Spec, parts ...int) int {
	t.Helper()
	s.Parts = parts
	return give(t, b, s)
}

func specOf(t *testing.T, b *book.Book, h int) api.Spec {
	t.Helper()
	s, e := b.Spec(h)
	if e != api.OK {
		t.Fatalf("Spec(%d): %d", h, e)
	}
	return s
}

func errorOf(t *testing.T, b *book.Book, h int) error {
	t.Helper()
	err, e := b.Error(h)
	if e != api.OK {
		t.Fatalf("Error(%d): %d", h, e)
	}
	return err
}

// leaves are specs without parts: of each kind some that differ in one field, and those that are as odd as its fields may be.
func leaves() []api.Spec {
	nan, minus0, inf := math.NaN(), math.Copysign(0, -1), math.Inf(1)
	return []api.Spec{
		{Kind: 1}, {Kind: 1, Number: 5}, {Kind: 1, Number: -32768},
		{Kind: 2}, {Kind: 2, Text: "ab"}, {Kind: 2, Text: "ac"},
		{Kind: 3}, {Kind: 3, Re: minus0}, {Kind: 3, Re: nan}, {Kind: 3, Re: inf},
		{Kind: 4}, {Kind: 4, Re: minus0, Im: minus0}, {Kind: 4, Re: nan}, {Kind: 4, Im: nan}, {Kind: 4, Re: 1, Im: 2},
		{Kind: 5, Text: "abcd"}, {Kind: 5, Text: "abc\x00"},
		{Kind: 6}, {Kind: 6, Items: []string{"a"}}, {Kind: 6, Nil: true},
		{Kind: 7, Text: "z"}, {Kind: 7, Text: "z", Flag: true}, {Kind: 7, Nil: true},
		{Kind: 8}, {Kind: 8, Nil: true},
		{Kind: 9, Text: "p"}, {Kind: 9, Nil: true},
		{Kind: 10, Text: "q"}, {Kind: 10, Nil: true},
		{Kind: 11, Number: 5, Text: "c"}, {Kind: 11, Number: 6, Text: "c"}, {Kind: 11, Number: 5, Text: "d"},
		{Kind: 12}, {Kind: 12, Text: "b", Items: []string{"i"}},
		{Kind: 13}, {Kind: 14}, {Kind: 14, Nil: true}, {Kind: 15}, {Kind: 16}, {Kind: 16, Nil: true},
		{Kind: 17}, {Kind: 17, Flag: true}, {Kind: 18}, {Kind: 18, Number: 4},
		{Kind: 19, Number: 5, Re: 1}, {Kind: 19, Number: 6, Re: 1}, {Kind: 19, Number: 5}, {Kind: 19, Number: 5, Re: minus0}, {Kind: 19, Number: 5, Re: nan},
		{Kind: 20}, {Kind: 21, Text: "e"}, {Kind: 21, Text: "e", Flag: true}, {Kind: 21, Nil: true},
		{Kind: 22, Text: "g"}, {Kind: 22, Nil: true},
		{Kind: 23, Number: 1, Small: -5}, {Kind: 23, Number: 1}, {Kind: 23, Number: 2}, {Kind: 23, Number: 2, Re: minus0}, {Kind: 23, Number: 2, Re: nan},
		{Kind: 23, Number: 3}, {Kind: 23, Number: 3, Text: "bytes"}, {Kind: 23, Number: 3, Nil: true},
		{Kind: 24, Text: "s"}, {Kind: 24, Text: "s", Flag: true}, {Kind: 24, Nil: true},
		{Kind: 25, Number: 5, Text: "f"}, {Kind: 25, Number: 6, Text: "f"}, {Kind: 25, Number: 5, Text: "g"},
		{Kind: 26, Text: "o", Items: []string{"n"}}, {Kind: 26, Nil: true},
	}
}

// abouts are the specs of kinds that hold an error and are compared by it, and of those by whose pointer it is hidden.
func abouts() []api.Spec {
	return []api.Spec{
		{Kind: 13, Text: "a"}, {Kind: 13, Text: "b"}, {Kind: 15, Text: "a"}, {Kind: 15, Text: "b"}, {Kind: 17}, {Kind: 17, Flag: true}, {Kind: 20},
		{Kind: 14}, {Kind: 16}, {Kind: 26, Items: []string{"n"}},
	}
}

// allKinds is a book with each leaf twice, and with what is about them; what is about that again is drawn.
func allKinds(t *testing.T) *book.Book {
	t.Helper()
	b := book.New()
	for range 2 {
		for _, s := range leaves() {
			give(t, b, s)
		}
	}
	n := b.Len()
	for h := 0; h <= n; h += 1 + h%2 {
		for _, s := range abouts() {
			giveAbout(t, b, s, h)
		}
		givePointed(t, b, h)
	}
	draw := rand.New(rand.NewSource(7))
	for range 300 {
		all := abouts()
		giveAbout(t, b, all[draw.Intn(len(all))], draw.Intn(b.Len()+1))
	}
	return b
}

// givePointed makes what may be about a Plain or about a Wrap alone.
func givePointed(t *testing.T, b *book.Book, h int) {
	t.Helper()
	kind, _ := b.Kind(h)
	if h == 0 || kind == api.KindPlain {
		giveAbout(t, b, api.Spec{Kind: 18}, h)
		giveAbout(t, b, api.Spec{Kind: 18}, h)
		giveAbout(t, b, api.Spec{Kind: 18, Number: 4}, h)
	}
	if h == 0 || kind == api.KindWrap {
		giveAbout(t, b, api.Spec{Kind: 25, Number: 5, Text: "f"}, h)
		giveAbout(t, b, api.Spec{Kind: 25, Number: 5, Text: "f"}, h)
		giveAbout(t, b, api.Spec{Kind: 25, Number: 6, Text: "f"}, h)
	}
}

// example is the chapter's book.
func example(t *testing.T) *book.Book {
	t.Helper()
	b := book.New()
	for _, s := range []api.Spec{
		{Kind: api.KindCode, Number: 5}, {Kind: api.KindCode, Number: 5}, {Kind: api.KindLevel, Re: math.NaN()}, {Kind: api.KindBag},
		{Kind: api.KindHold, Text: "a", Parts: []int{4}}, {Kind: api.KindHold, Text: "b", Parts: []int{4}},
		{Kind: api.KindPlain, Text: "x"}, {Kind: api.KindPlain, Text: "x"}, {Kind: api.KindWrap, Nil: true}, {Kind: api.KindOver, Text: "o", Parts: []int{5}},
		{Kind: api.KindLevel, Re: math.Copysign(0, -1)}, {Kind: api.KindLevel},
		{Kind: api.KindTimed, Flag: true, Parts: []int{4}}, {Kind: api.KindTimed, Parts: []int{4}},
	} {
		give(t, b, s)
	}
	return b
}

// badHandles name none in a book of so many errors.
func badHandles(n int) []int {
	return []int{-1, n + 1, n + 2, -n - 1, -1 << 63, 1<<63 - 1, 1 << 32, 1<<32 + 1}
}

// drawnRow draws so many handles, which come from few, so that many are alike.
func drawnRow(draw *rand.Rand, b *book.Book, n int) []int {
	few := []int{0, 1 + draw.Intn(b.Len()), 1 + draw.Intn(b.Len()), 1 + draw.Intn(b.Len())}
	row := make([]int, n)
	for i := range row {
		row[i] = few[draw.Intn(len(few))]
		if draw.Intn(4) == 0 {
			row[i] = draw.Intn(b.Len() + 1)
		}
	}
	return row
}
