package grasp_test

import (
	"fmt"
	"math/rand"
	"reflect"
	"testing"

	"errata/api"
	"errata/book"
	"errata/kinds"
)

// What the tests hold package grasp against: reflection, which tells without an assertion whether a value is a T; the walked parts by the chapter's words, and by what Unwrap tells.

// isOne tells whether an error is a T.
func isOne[T any](err error) bool {
	if err == nil {
		return false
	}
	want, is := reflect.TypeFor[T](), reflect.TypeOf(err)
	if want.Kind() == reflect.Interface {
		return is.Implements(want)
	}
	return is == want
}

// told is a value with its type; like for like only of the very same pointers, functions and channels. No method is called.
func told(v any) string { return fmt.Sprintf("%T %#v", v, []any{v}) }

func give(t *testing.T, b *book.Book, s api.Spec, parts ...int) int {
	t.Helper()
	s.Parts = parts
	h, e := b.Make(s)
	if e != api.OK {
		t.Fatalf("Make of kind %d about %v: %d", s.Kind, parts, e)
	}
	return h
}

func errorOf(t *testing.T, b *book.Book, h int) error {
	t.Helper()
	err, e := b.Error(h)
	if e != api.OK {
		t.Fatalf("Error(%d): %d", h, e)
	}
	return err
}

// example is the book of the chapter's examples.
func example(t *testing.T) *book.Book {
	t.Helper()
	b := book.New()
	give(t, b, api.Spec{Kind: api.KindCode, Number: 5})
	give(t, b, api.Spec{Kind: api.KindNote, Text: "n"})
	give(t, b, api.Spec{Kind: api.KindWrap, Text: "w"}, 1)
	give(t, b, api.Spec{Kind: api.KindJoin}, 2, 0, 3)
	give(t, b, api.Spec{Kind: api.KindPlain, Nil: true})
	give(t, b, api.Spec{Kind: api.KindWrap}, 5)
	give(t, b, api.Spec{Kind: api.KindVeil}, 1)
	give(t, b, api.Spec{Kind: api.KindFull, Text: "t"}, 3)
	give(t, b, api.Spec{Kind: api.KindWrap, Nil: true})
	give(t, b, api.Spec{Kind: api.KindJoin}, 9)
	return b
}

// specsOf are specs of a kind: what it asks for and no more, some words, a nil one where it may be.
func specsOf(kind uint8) []api.Spec {
	var all []api.Spec
	for _, s := range []api.Spec{
		{}, {Text: "four"}, {Text: "t", Flag: true}, {Number: 7}, {Number: 7, Text: "t"}, {Number: 1, Small: 3}, {Number: 2, Re: 0.5}, {Number: 3, Text: "t"},
		{Re: 0.5}, {Re: 1, Im: -2}, {Flag: true}, {Items: []string{"i"}}, {Text: "t", Items: []string{"i"}}, {Nil: true}, {Number: 3, Nil: true},
	} {
		s.Kind = kind
		if kinds.Check(s) == api.OK {
			all = append(all, s)
		}
	}
	return all
}

// everyKind is a book with each kind: without parts, nil, about no error, and about one of each kind.
func everyKind(t *testing.T) *book.Book {
	t.Helper()
	b := book.New()
	abouts := 0
	for kind := range api.KindOpaque {
		for _, s := range specsOf(kind + 1) {
			give(t, b, s)
		}
	}
	bare := b.Len()
	for kind := range api.KindOpaque {
		for h := range bare + 1 {
			s := specsOf(kind + 1)[0]
			s.Parts = []int{h}
			if _, e := b.Make(s); e == api.OK {
				abouts++
			}
		}
	}
	if bare < 40 || abouts < 6*bare {
		t.Fatal("everyKind has", bare, "without parts and", abouts, "about them")
	}
	return b
}

// drawnBook is a book of errors about errors about errors.
func drawnBook(t *testing.T, seed int64) *book.Book {
	t.Helper()
	draw := rand.New(rand.NewSource(seed))
	walked := []uint8{api.KindWrap, api.KindOver, api.KindJoin, api.KindOpaque, api.KindFull}
	b := book.New()
	for b.Len() < 60 {
		kind := uint8(1 + draw.Intn(26))
		if draw.Intn(3) > 0 {
			kind = walked[draw.Intn(len(walked))]
		}
		specs := specsOf(kind)
		s := specs[draw.Intn(len(specs))]
		if _, most := kinds.Parts(kind); !s.Nil {
			for range min(most, draw.Intn(4)) {
				s.Parts = append(s.Parts, max(0, b.Len()-draw.Intn(6)))
			}
		}
		b.Make(s) // what may not be made is left out
	}
	return b
}

// withinOf are the handles of all within h's error, by the chapter's words.
func withinOf(t *testing.T, b *book.Book, h int) []int {
	t.Helper()
	if h == 0 {
		return nil
	}
	all := []int{h}
	s, e := b.Spec(h)
	if e != api.OK {
		t.Fatalf("Spec(%d): %d", h, e)
	}
	parts := map[uint8][]int{api.KindWrap: s.Parts, api.KindOver: s.Parts, api.KindJoin: s.Parts, api.KindOpaque: s.Parts}[s.Kind]
	if s.Kind == api.KindFull && len(s.Parts) == 1 && s.Parts[0] != 0 {
		wrap, _ := b.Spec(s.Parts[0])
		parts = wrap.Parts
	}
	for _, part := range parts {
		all = append(all, withinOf(t, b, part)...)
	}
	return all
}

// unwrappedOf are the errors within another one, by what Unwrap tells; where it panics there are none.
func unwrappedOf(err error) []error {
	if err == nil {
		return nil
	}
	all := []error{err}
	for _, part := range partsOf(err) {
		all = append(all, unwrappedOf(part)...)
	}
	return all
}

func partsOf(err error) (parts []error) {
	defer func() { _ = recover() }()
	switch x := err.(type) {
	case api.One:
		return []error{x.Unwrap()}
	case api.Many:
		return x.Unwrap()
	}
	return nil
}

// badHandles name none in a book of so many errors.
func badHandles(n int) []int {
	return []int{-1, n + 1, n + 2, -n - 1, -1 << 63, 1<<63 - 1, 1 << 32, 1<<32 + 1}
}

// Types of this package's own, beside those that a test declares where it asks.
type (
	own[T any]  struct{ item T }
	ownCode     int16
	ownKinder   interface{ Kind() uint8 }
	item[T any] interface{ Item() T }
	hidden      interface{ hidden() }
)

func (own[T]) Error() string { return "own" }
