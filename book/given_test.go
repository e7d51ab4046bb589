package book_test

import (
	"testing"

	"errata/api"
	"errata/book"
	"errata/kinds"
)

// TestP5_5Types: of the types of all kinds an error is just the one of its own, and a nil one just where its Nil is true.
func TestP5_5Types(t *testing.T) {
	b := everyKind(t)
	for h, err := range b.Each() {
		s := specOf(t, b, h)
		held := 0
		for _, r := range rows() {
			if !r.is(err) {
				continue
			}
			held++
			if r.spec.Kind != s.Kind || s.Kind == api.KindBox && r.spec.Number != s.Number {
				t.Errorf("%d of the kind %d is a %s", h, s.Kind, r.name)
			}
			if err == nil || r.isNil && isNothing(err) != s.Nil {
				t.Errorf("%d is a nil %s: %t", h, r.name, !s.Nil)
			}
		}
		if held != 1 {
			t.Errorf("%d of the kind %d is of %d types", h, s.Kind, held)
		}
	}
}

func TestP5_5TypedNil(t *testing.T) {
	b := book.New()
	err := errorOf(t, b, give(t, b, api.Spec{Kind: api.KindPlain, Nil: true}))
	if plain, ok := err.(*kinds.Plain); err == nil || plain != nil || !ok {
		t.Error("no nil Plain:", ok)
	}
	if none := errorOf(t, b, 0); none != nil {
		t.Error("0 is an error")
	}
}

// sayAbout holds that what was told is the very errors of these handles.
func sayAbout(t *testing.T, b *book.Book, h int, told []error, handles []int) {
	t.Helper()
	if len(told) != len(handles) {
		t.Errorf("%d tells %d parts, not %d", h, len(told), len(handles))
		return
	}
	for i, part := range handles {
		if want := errorOf(t, b, part); !very(told[i], want) || (part == 0) != (told[i] == nil) {
			t.Errorf("%d: the part %d is not the error of %d", h, i, part)
		}
	}
}

// TestP5_5Unwrap tells the very errors of the parts, in order.
func TestP5_5Unwrap(t *testing.T) {
	books := []*book.Book{everyKind(t)}
	for seed := range int64(20) {
		b, _ := someBook(t, 500+seed, 100)
		books = append(books, b, b.Copy())
	}
	for _, b := range books {
		for h, err := range b.Each() {
			s := specOf(t, b, h)
			if s.Nil || s.Kind == api.KindFull {
				continue
			}
			parts := s.Parts
			switch x := err.(type) {
			case api.One:
				if len(parts) == 0 {
					parts = []int{0}
				}
				sayAbout(t, b, h, []error{x.Unwrap()}, parts)
			case api.Many:
				sayAbout(t, b, h, x.Unwrap(), parts)
			}
		}
	}
}

// TestP5_5PartsOfAll asks each kind that has parts for them, also where Unwrap does not tell them.
func TestP5_5PartsOfAll(t *testing.T) {
	b := book.New()
	plain := give(t, b, api.Spec{Kind: api.KindPlain, Text: "p"})
	cause := wrap(t, b, "w", plain)
	nilWrap := give(t, b, api.Spec{Kind: api.KindWrap, Nil: true})
	for _, part := range []int{plain, cause, nilWrap, 0} {
		about := func(kind uint8) (int, error) {
			h := give(t, b, api.Spec{Kind: kind, Parts: []int{part}})
			return h, errorOf(t, b, h)
		}
		h, err := about(api.KindHold)
		held, _ := err.(kinds.Hold).Held().(error)
		sayAbout(t, b, h, []error{held}, []int{part})
		h, err = about(api.KindOver)
		sayAbout(t, b, h, []error{err.(kinds.Over).Unwrap()}, []int{part})
		h, err = about(api.KindJoin)
		sayAbout(t, b, h, err.(*kinds.Join).Unwrap(), []int{part})
		wanted, _ := b.Error(part)
		if p, ok := wanted.(*kinds.Plain); ok || wanted == nil {
			if _, err = about(api.KindPlaced); err.(kinds.Placed).Plain != p {
				t.Errorf("a Placed is not about %d", part)
			}
		}
		if w, ok := wanted.(*kinds.Wrap); ok || wanted == nil {
			if _, err = about(api.KindFull); err.(kinds.Full).Wrap != w {
				t.Errorf("a Full is not about %d", part)
			}
		}
		_, err = about(api.KindVeil)
		if want, p := told(errorOf(t, b, wrap(t, b, "veil", part))); p == (api.Panic{}) {
			if got, _ := told(err); got != want {
				t.Errorf("a Veil about %d tells %s", part, got)
			}
		}
	}
	h := give(t, b, api.Spec{Kind: api.KindTimed, Parts: []int{cause}})
	if text, _, _ := b.Text(h); text != "w: p" {
		t.Error("a Timed tells", text)
	}
}

// TestP5_5Pointers: two pointers or Lines that are no typed nils are alike just if their handles are.
func TestP5_5Pointers(t *testing.T) {
	b := everyKind(t)
	for range 2 {
		for _, r := range rows() {
			give(t, b, r.spec)
		}
	}
	pointers := 0
	for h, x := range b.Each() {
		if !byPointer(specOf(t, b, h)) {
			continue
		}
		pointers++
		for g, y := range b.Each() {
			if byPointer(specOf(t, b, g)) && (x == y) != (h == g) {
				t.Errorf("%d and %d: %t", h, g, x == y)
			}
		}
		if again := errorOf(t, b, h); again != x {
			t.Errorf("%d is another error now", h)
		}
	}
	if pointers < 27 {
		t.Error("pointers:", pointers)
	}
}

func byPointer(s api.Spec) bool {
	switch s.Kind {
	case 8, 9, 10, 14, 16, 21, 22, 24, 26:
		return !s.Nil
	}
	return false
}

// state is all that stays of a handle.
type state struct {
	err                 error
	spec                api.Spec
	size, depth, length int
}

func stateOf(t *testing.T, b *book.Book, h int) state {
	t.Helper()
	size, _ := b.Size(h)
	depth, _ := b.Depth(h)
	length, _ := b.Length(h)
	return state{errorOf(t, b, h), specOf(t, b, h), size, depth, length}
}

// TestP5_5Stays: whatever is done, what a handle has stays.
func TestP5_5Stays(t *testing.T) {
	b := everyKind(t)
	n := b.Len()
	var before []state
	for h := 1; h <= n; h++ {
		before = append(before, stateOf(t, b, h))
	}
	for h := 1; h <= n; h++ {
		b.Text(h)
		wrap(t, b, "w", h)
		b.Make(api.Spec{Kind: api.KindCode, Parts: []int{h}})
		c := b.Copy()
		note(t, c, "in a copy")
		b.Make(api.Spec{Kind: api.KindWrap, Parts: []int{c.Len()}})
	}
	for range 1000 {
		note(t, b, "more")
	}
	for i, x := range before {
		y := stateOf(t, b, i+1)
		if !very(x.err, y.err) || !sameSpec(x.spec, y.spec) || x.size != y.size || x.depth != y.depth || x.length != y.length {
			t.Errorf("%d is now %+v", i+1, y)
		}
	}
}
