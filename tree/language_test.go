package tree_test

import (
	"fmt"
	"reflect"
	"testing"

	"errata/api"
	"errata/book"
	"errata/tree"
)

// stepped goes a step from an error: to the part of a number, by asserting to api.One and api.Many and by Unwrap; false, where it holds none of the two, or is a typed nil.
func stepped(err error, number byte) (part error, ok bool) {
	if v := reflect.ValueOf(err); !v.IsValid() || v.Kind() == reflect.Pointer && v.IsNil() {
		return nil, false
	}
	switch x := err.(type) {
	case api.One:
		return x.Unwrap(), number == 0
	case api.Many:
		if parts := x.Unwrap(); int(number) < len(parts) {
			return parts[number], true
		}
	}
	return nil, false
}

// typeOf is the type of each kind, by its name.
func typeOf(s api.Spec) string {
	names := []string{
		"", "Code", "Note", "Level", "Sway", "Mark", "Tags", "Lazy", "Line", "*Plain", "*Quiet", "Coded", "Bag", "Hold", "*Wrap", "Over", "*Join", "Timed", "Placed",
		"Twin", "Veil", "*Echo", "*Guise", "", "*Slow", "Full", "*Opaque",
	}
	name := names[s.Kind]
	if s.Kind == api.KindBox {
		name = []string{"", "Box[int8]", "Box[float64]", "Box[[]uint8]"}[s.Number]
	}
	if name[0] == '*' {
		return "*kinds." + name[1:]
	}
	return "kinds." + name
}

// sayVeryOne holds that an error is the value of a handle: of its kind's type, and the very same pointer if it is one.
func sayVeryOne(t *testing.T, b *book.Book, h int, err error) {
	t.Helper()
	if h == 0 || err == nil {
		if h != 0 || err != nil {
			t.Errorf("%d is come to as %T", h, err)
		}
		return
	}
	if got, want := fmt.Sprintf("%T", err), typeOf(specOf(t, b, h)); got != want {
		t.Errorf("%d is come to as a %s, not a %s", h, got, want)
	}
	own := errorOf(t, b, h)
	if reflect.TypeOf(own).Kind() == reflect.Pointer && own != err {
		t.Errorf("%d is come to as another %T", h, err)
	}
}

// sayLanguage goes all paths of an error by the values' own Unwrap, as far as that leads; it tells how many steps were gone, and how many by a Full.
func sayLanguage(t *testing.T, b *book.Book, h int) (steps, fulls int) {
	t.Helper()
	came := map[string]error{"": errorOf(t, b, h)}
	for _, n := range nodesOf(t, b, h) {
		err, ok := came[n.path]
		if !ok {
			continue
		}
		sayVeryOne(t, b, n.h, err)
		s := specOf(t, b, n.h)
		for i, part := range s.Parts {
			path := n.path + string([]byte{byte(i)})
			if s.Kind == api.KindFull {
				fulls += sayFull(t, b, h, path, part, err)
				continue
			}
			if next, ok := stepped(err, byte(i)); ok {
				g, e := tree.At(b, h, path)
				if e != api.OK {
					t.Errorf("At(%d, %q): %d", h, path, e)
				}
				sayVeryOne(t, b, g, next)
				came[path] = next
				steps++
			}
		}
	}
	return steps, fulls
}

// sayFull holds that the Unwrap of a Full tells what stands a step more from it: its Wrap's cause.
func sayFull(t *testing.T, b *book.Book, h int, path string, wrap int, err error) int {
	t.Helper()
	if wrap == 0 || len(specOf(t, b, wrap).Parts) == 0 {
		return 0 // without a Wrap, or of a nil one, Unwrap panics
	}
	next, _ := stepped(err, 0)
	g, e := tree.At(b, h, path+"\x00")
	if e != api.OK {
		t.Errorf("At(%d, %q): %d", h, path, e)
	}
	sayVeryOne(t, b, g, next)
	return 1
}

func TestP11_7Language(t *testing.T) {
	steps, fulls := 0, 0
	for _, b := range books(t) {
		for h := 1; h <= b.Len(); h++ {
			s, f := sayLanguage(t, b, h)
			steps += s
			fulls += f
		}
	}
	if steps < 500 || fulls == 0 {
		t.Error("steps gone:", steps, "and by Fulls", fulls)
	}
}

// TestP11_7Holds: where an error holds One or Many and is no typed nil, each of its parts is come to by Unwrap; where it holds none, At goes on nevertheless.
func TestP11_7Holds(t *testing.T) {
	b := book.New()
	code := give(t, b, api.Spec{Kind: api.KindCode, Number: 7})
	for kind, leads := range map[uint8]bool{
		api.KindWrap: true, api.KindOver: true, api.KindJoin: true, api.KindOpaque: true,
		api.KindHold: false, api.KindTimed: false, api.KindVeil: false,
	} {
		s := api.Spec{Kind: kind}
		if kind == api.KindOpaque {
			s.Items = []string{"n"}
		}
		h := give(t, b, s, code)
		sayAt(t, b, h, "\x00", code, api.OK)
		if _, ok := stepped(errorOf(t, b, h), 0); ok != leads {
			t.Errorf("kind %d leads on: %t", kind, ok)
		}
	}
}

// TestP11_7Full: a Full's Unwrap is its Wrap's, so that it leads a step more.
func TestP11_7Full(t *testing.T) {
	b := book.New()
	plain := give(t, b, api.Spec{Kind: api.KindPlain})
	wrap := give(t, b, api.Spec{Kind: api.KindWrap}, plain)
	h := give(t, b, api.Spec{Kind: api.KindFull}, wrap)
	sayAt(t, b, h, "\x00", wrap, api.OK)
	sayAt(t, b, h, "\x00\x00", plain, api.OK)
	next, ok := stepped(errorOf(t, b, h), 0)
	if !ok || next != errorOf(t, b, plain) {
		t.Errorf("a Full leads to %T", next)
	}
	if _, fulls := sayLanguage(t, b, give(t, b, api.Spec{Kind: api.KindJoin}, h, wrap, h)); fulls != 2 {
		t.Error("Fulls that were gone through:", fulls)
	}
}

// TestP11_7MadeAnew: what Replace and Cut make is gone through likewise, and what they leave is the very one that it was.
func TestP11_7MadeAnew(t *testing.T) {
	b := book.New()
	join := give(t, b, api.Spec{Kind: api.KindJoin})
	wrap := give(t, b, api.Spec{Kind: api.KindWrap, Text: "w"}, join)
	top := give(t, b, api.Spec{Kind: api.KindJoin}, wrap, 0, wrap)
	other := give(t, b, api.Spec{Kind: api.KindEcho})
	replaced, e := tree.Replace(b, top, "\x00\x00", other)
	if e != api.OK {
		t.Fatal("Replace:", e)
	}
	sayLanguage(t, b, replaced)
	kept, _ := stepped(errorOf(t, b, replaced), 2)
	sayVeryOne(t, b, wrap, kept)
	anew, _ := stepped(errorOf(t, b, replaced), 0)
	last, _ := stepped(anew, 0)
	sayVeryOne(t, b, other, last)
	if anew == kept {
		t.Error("what was made anew is the old one")
	}
	cut, e := tree.Cut(b, top, 2)
	if e != api.OK {
		t.Fatal("Cut:", e)
	}
	sayLanguage(t, b, cut)
	first, _ := stepped(errorOf(t, b, cut), 0)
	third, _ := stepped(errorOf(t, b, cut), 2)
	if first == nil || first != third {
		t.Error("what stands on one level twice is made twice")
	}
	if part, ok := stepped(first, 0); part != nil || !ok {
		t.Errorf("what was cut off is %T", part)
	}
}
