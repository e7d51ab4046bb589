package grasp_test

import (
	"slices"
	"testing"

	"errata/api"
	"errata/book"
	"errata/grasp"
	"errata/kinds"
)

// TestR3WhatIsHandedInStays: a row is as it was, with the room behind its end.
func TestR3WhatIsHandedInStays(t *testing.T) {
	b := example(t)
	row := []int{1, 4, 1, 0, 3, 77, 78}
	before := slices.Clone(row)
	grasp.Pick[kinds.Code](b, row[:5])
	grasp.Pick[any](b, row[:6])
	if !slices.Equal(row, before) {
		t.Error("what was handed in is now", row)
	}
}

// TestR3WhatIsHandedOutIsNew: who changes what was told, or the room behind it, changes nothing else.
func TestR3WhatIsHandedOutIsNew(t *testing.T) {
	b := example(t)
	for h := range b.Len() + 1 {
		want := withinOf(t, b, h)
		nodes, _ := grasp.Nodes(b, h)
		seq := grasp.All[error](b, h)
		clear(nodes[:cap(nodes)])
		sayNodes(t, b, h, want...)
		n := 0
		for range seq {
			n++
		}
		if n != len(want) {
			t.Errorf("All(%d) goes over %d", h, n)
		}
	}
	row := []int{1, 1, 1}
	codes, _ := grasp.Pick[kinds.Code](b, row)
	more, _ := grasp.Pick[kinds.Code](b, row)
	clear(codes[:cap(codes)])
	if !slices.Equal(more, []kinds.Code{5, 5, 5}) || !slices.Equal(row, []int{1, 1, 1}) {
		t.Error("lists are shared:", more, row)
	}
	if parts, _ := b.Parts(4); !slices.Equal(parts, []int{2, 0, 3}) {
		t.Error("the parts of 4 are now", parts)
	}
}

// askAll asks all calls of a handle for a T.
func askAll[T any](b *book.Book, h int) {
	grasp.Find[T](b, h)
	grasp.Count[T](b, h)
	grasp.Must[T](b, h)
	grasp.Which[int, T, string](b, h)
	grasp.Pick[T](b, []int{h, 0, h})
	grasp.Over(b, h, func(T) int { return 1 }, func(error) int { return 2 })
	grasp.Nodes(b, h)
	for range grasp.All[T](b, h) {
		continue
	}
}

// TestR7NotMade: a Slow is made by the first call of its Error, and nothing here is one; of what panics when it is called nothing is called.
func TestR7NotMade(t *testing.T) {
	b := book.New()
	slow := give(t, b, api.Spec{Kind: api.KindSlow, Text: "s"})
	parts := []int{slow}
	for _, kind := range []uint8{api.KindWrap, api.KindOver, api.KindVeil, api.KindTimed, api.KindHold} {
		parts = append(parts, give(t, b, api.Spec{Kind: kind}, slow))
	}
	parts = append(parts, give(t, b, api.Spec{Kind: api.KindFull}, parts[1]))
	for _, s := range []api.Spec{
		{Kind: api.KindEcho, Flag: true}, {Kind: api.KindLazy, Flag: true}, {Kind: api.KindTimed}, {Kind: api.KindPlaced}, {Kind: api.KindFull},
		{Kind: api.KindGuise, Nil: true}, {Kind: api.KindWrap, Nil: true}, {Kind: api.KindJoin, Nil: true}, {Kind: api.KindOpaque, Nil: true},
	} {
		parts = append(parts, give(t, b, s))
	}
	give(t, b, api.Spec{Kind: api.KindJoin}, parts...)
	for h := range b.Len() + 1 {
		askAll[error](b, h)
		askAll[any](b, h)
		askAll[api.Judge](b, h)
		askAll[api.Lender](b, h)
		askAll[api.Many](b, h)
		askAll[*kinds.Slow](b, h)
		askAll[interface{ Made() bool }](b, h)
	}
	if made, p, e := grasp.Must[*kinds.Slow](b, slow); p != (api.Panic{}) || e != api.OK || made.Made() {
		t.Error("no Slow, or its Error was called:", p, e)
	}
}
