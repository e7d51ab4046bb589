package grasp_test

import (
	"testing"

	"errata/api"
	"errata/book"
	"errata/grasp"
	"errata/kinds"
)

// What is told here is held against assertions and type switches that are written out in the language, type by type.

// written is the language's own two forms of an assertion beside the calls that ask the same.
type written struct {
	name string
	two  func(err error) bool
	one  func(err error)
	find func(b *book.Book, h int) (int, api.Errno)
	must func(b *book.Book, h int) (api.Panic, api.Errno)
}

func findOf[T any](b *book.Book, h int) (int, api.Errno) {
	_, at, e := grasp.Find[T](b, h)
	return at, e
}

func mustOf[T any](b *book.Book, h int) (api.Panic, api.Errno) {
	_, p, e := grasp.Must[T](b, h)
	return p, e
}

// allWritten have types of kinds, faces, any, and such as are declared here alone, one of them with a method that nobody else can have.
func allWritten() []written {
	type coder interface{ Code() int16 }
	type both interface {
		coder
		Unwrap() error
	}
	type secret interface {
		error
		secret()
	}
	type Note string
	type plain = *kinds.Plain
	return []written{
		{"Code", func(err error) bool { _, ok := err.(kinds.Code); return ok }, func(err error) { _ = err.(kinds.Code) }, findOf[kinds.Code], mustOf[kinds.Code]},
		{"Tags", func(err error) bool { _, ok := err.(kinds.Tags); return ok }, func(err error) { _ = err.(kinds.Tags) }, findOf[kinds.Tags], mustOf[kinds.Tags]},
		{"Lazy", func(err error) bool { _, ok := err.(kinds.Lazy); return ok }, func(err error) { _ = err.(kinds.Lazy) }, findOf[kinds.Lazy], mustOf[kinds.Lazy]},
		{"plain", func(err error) bool { _, ok := err.(*kinds.Plain); return ok }, func(err error) { _ = err.(*kinds.Plain) }, findOf[plain], mustOf[plain]},
		{"Box", func(err error) bool { _, ok := err.(kinds.Box[float64]); return ok }, func(err error) { _ = err.(kinds.Box[float64]) }, findOf[kinds.Box[float64]], mustOf[kinds.Box[float64]]},
		{"any", func(err error) bool { _, ok := err.(any); return ok }, func(err error) { _ = err.(any) }, findOf[any], mustOf[any]},
		{"error", func(err error) bool { _, ok := err.(error); return ok }, func(err error) { _ = err.(error) }, findOf[error], mustOf[error]},
		{"Sizer", func(err error) bool { _, ok := err.(api.Sizer); return ok }, func(err error) { _ = err.(api.Sizer) }, findOf[api.Sizer], mustOf[api.Sizer]},
		{"coder", func(err error) bool { _, ok := err.(coder); return ok }, func(err error) { _ = err.(coder) }, findOf[coder], mustOf[coder]},
		{"both", func(err error) bool { _, ok := err.(both); return ok }, func(err error) { _ = err.(both) }, findOf[both], mustOf[both]},
		{"secret", func(err error) bool { _, ok := err.(secret); return ok }, func(err error) { _ = err.(secret) }, findOf[secret], mustOf[secret]},
		{"Note", func(err error) bool { _, ok := any(err).(Note); return ok }, func(err error) { _ = any(err).(Note) }, findOf[Note], mustOf[Note]},
		{"string", func(err error) bool { _, ok := any(err).(string); return ok }, func(err error) { _ = any(err).(string) }, findOf[string], mustOf[string]},
	}
}

// panics tells whether the one-valued form of an assertion does.
func panics(one func(error), err error) (bad bool) {
	defer func() { bad = recover() != nil }()
	one(err)
	return false
}

// TestP10_4Assertions: the two-valued form holds just where Find finds the error itself, the one-valued one panics just where Must says so. P1 says the same of the whole.
func TestP10_4Assertions(t *testing.T) {
	b := everyKind(t)
	for _, w := range allWritten() {
		held := 0
		for h := range b.Len() + 1 {
			err := errorOf(t, b, h)
			holds, bad := w.two(err), panics(w.one, err)
			at, e := w.find(b, h)
			if (at == 0 && e == api.OK) != holds || holds == bad {
				t.Errorf("Find[%s](%d): %d %d; the language says %t", w.name, h, at, e, holds)
			}
			p, e := w.must(b, h)
			if (p == atRuntime) != bad || (p == api.Panic{}) == bad || e != api.OK {
				t.Errorf("Must[%s](%d): %v %d; the language panics: %t", w.name, h, p, e, bad)
			}
			if holds {
				held++
			}
		}
		nobody := w.name == "secret" || w.name == "Note" || w.name == "string"
		if (held == 0) != nobody {
			t.Errorf("%d are a %s", held, w.name)
		}
	}
}

// TestP10_4Switches: Which tells the case that a type switch takes.
func TestP10_4Switches(t *testing.T) {
	type graded interface {
		error
		Grade() int8
	}
	b := everyKind(t)
	for n, w := range []struct {
		taken func(err error) int
		which func(b *book.Book, h int) (int, api.Errno)
	}{
		{func(err error) int {
			switch err.(type) {
			case graded:
				return 1
			case kinds.Code:
				return 2
			case kinds.Note:
				return 3
			}
			return 0
		}, grasp.Which[graded, kinds.Code, kinds.Note]},
		{func(err error) int {
			switch err.(type) {
			case *kinds.Wrap:
				return 1
			case api.One:
				return 2
			case api.Many:
				return 3
			}
			return 0
		}, grasp.Which[*kinds.Wrap, api.One, api.Many]},
		{func(err error) int {
			switch err.(type) {
			case kinds.Box[[]uint8]:
				return 1
			case interface{ Item() float64 }:
				return 2
			case any:
				return 3
			}
			return 0
		}, grasp.Which[kinds.Box[[]uint8], interface{ Item() float64 }, any]},
		{func(err error) int {
			switch any(err).(type) {
			case int16:
				return 1
			case *kinds.Slow:
				return 2
			case error:
				return 3
			}
			return 0
		}, grasp.Which[int16, *kinds.Slow, error]},
	} {
		taken := map[int]int{}
		for h := range b.Len() + 1 {
			want := w.taken(errorOf(t, b, h))
			taken[want]++
			if got, e := w.which(b, h); got != want || e != api.OK {
				t.Errorf("switch %d, error %d: %d %d, not %d", n, h, got, e, want)
			}
		}
		if len(taken) < 3 {
			t.Error("what was taken:", taken)
		}
	}
}

// TestP10_4Values: what is handed out is the book's own value, and answers as it does.
func TestP10_4Values(t *testing.T) {
	b := example(t)
	named, _, _ := grasp.Find[interface{ Unwrap() error }](b, 4)
	if w, ok := errorOf(t, b, 3).(*kinds.Wrap); !ok || named != api.One(w) || named.Unwrap() != error(kinds.Code(5)) {
		t.Error("Find within 4:", named)
	}
	line := give(t, b, api.Spec{Kind: api.KindLine})
	if v, _, e := grasp.Must[kinds.Line](b, line); v != errorOf(t, b, line) || e != api.OK {
		t.Error("Must of a Line:", v, e)
	}
	lazy := give(t, b, api.Spec{Kind: api.KindLazy, Text: "lazy"})
	if all, _ := grasp.Pick[kinds.Lazy](b, []int{lazy, lazy}); len(all) != 2 || all[0]() != "lazy" || all[1].Error() != "lazy" {
		t.Error("Pick of a Lazy:", all)
	}
}
