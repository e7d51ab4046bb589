package book_test

import (
	"slices"
	"strings"
	"testing"
	"unsafe"

	"errata/api"
	"errata/book"
	"errata/kinds"
)

// roomySpec is a Bag's or a Join's spec whose lists have room behind their ends, with all of the memory under them.
func roomySpec(kind uint8) (s api.Spec, items []string, parts []int) {
	items = []string{"item a", "item b", "room", "room"}
	parts = []int{1, 0, 1, 77, 77}
	if kind == api.KindBag {
		return api.Spec{Kind: kind, Text: "text", Items: items[:2]}, items, parts
	}
	return api.Spec{Kind: kind, Parts: parts[:3]}, items, parts
}

func spoil(s api.Spec) {
	for i := range s.Items[:cap(s.Items)] {
		s.Items[:cap(s.Items)][i] = "spoilt"
	}
	for i := range s.Parts[:cap(s.Parts)] {
		s.Parts[:cap(s.Parts)][i] = 99
	}
}

func TestR3WhatIsHandedInStays(t *testing.T) {
	for _, kind := range []uint8{api.KindBag, api.KindJoin, api.KindCode, 27} {
		b := book.New()
		note(t, b, "n")
		s, items, parts := roomySpec(kind)
		before, wantItems, wantParts := s, slices.Clone(items), slices.Clone(parts)
		h, e := b.Make(s)
		if kind < api.KindBag && e == api.OK || !sameSpec(s, before) || !slices.Equal(items, wantItems) || !slices.Equal(parts, wantParts) {
			t.Errorf("kind %d: what was handed in is now %q %v", kind, items, parts)
		}
		if e != api.OK {
			continue
		}
		spoil(s)
		want, _, _ := roomySpec(kind)
		if got := specOf(t, b, h); !sameSpec(got, want) {
			t.Errorf("who handed a spec in changed the book: %+v", got)
		}
		if kind == api.KindBag {
			if got := errorOf(t, b, h).(kinds.Bag).Details(); !slices.Equal(got, want.Items) {
				t.Errorf("who handed a spec in changed the error: %q", got)
			}
		}
		if text, _, _ := b.Text(h); kind == api.KindJoin && text != "n\nn" {
			t.Errorf("who handed a spec in changed the error: %q", text)
		}
	}
}

func TestR3WhatIsHandedOutIsNew(t *testing.T) {
	for _, kind := range []uint8{api.KindBag, api.KindJoin} {
		b := book.New()
		note(t, b, "n")
		want, _, _ := roomySpec(kind)
		h := give(t, b, want)
		for _, c := range []*book.Book{b, b.Copy()} {
			spoil(specOf(t, c, h))
			_ = append(specOf(t, c, h).Parts, 98)
			parts, _ := c.Parts(h)
			spoil(api.Spec{Parts: parts})
			again, _ := c.Parts(h)
			if !slices.Equal(again, want.Parts) || !sameSpec(specOf(t, c, h), want) || !sameSpec(specOf(t, b, h), want) {
				t.Errorf("who was handed a spec changed the book: %+v", specOf(t, c, h))
			}
		}
	}
}

// startOf is where a text's bytes are.
func startOf(s string) *byte { return unsafe.StringData(s) }

func TestR3Words(t *testing.T) {
	b := book.New()
	text, item := strings.Repeat("t", 20), strings.Repeat("i", 20)
	h := give(t, b, api.Spec{Kind: api.KindBag, Text: text, Items: []string{item, item}})
	s, again := specOf(t, b, h), specOf(t, b, h)
	told, _, _ := b.Text(h)
	starts := []*byte{startOf(text), startOf(item), startOf(s.Text), startOf(s.Items[0]), startOf(s.Items[1]), startOf(again.Text), startOf(again.Items[0]), startOf(again.Items[1]), startOf(told), startOf(errorOf(t, b, h).Error())}
	harsh := give(t, b, api.Spec{Kind: api.KindLazy, Text: text, Flag: true})
	_, p, _ := b.Text(harsh)
	_, q, _ := b.Text(harsh)
	starts = append(starts, startOf(p.Word), startOf(q.Word))
	for i, one := range starts {
		if slices.Contains(starts[i+1:], one) {
			t.Errorf("the word %d is shared", i)
		}
	}
}
