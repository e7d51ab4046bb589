package tree_test

import (
	"slices"
	"testing"

	"errata/api"
	"errata/book"
	"errata/kinds"
	"errata/tree"
)

// TestR3WhatIsHandedOutIsNew: who changes what was told, or the room behind it, changes nothing else.
func TestR3WhatIsHandedOutIsNew(t *testing.T) {
	b := example(t)
	want := nodesOf(t, b, 4)
	seq, _ := tree.Walk(b, 4)
	for range 2 {
		for _, tell := range []func(*book.Book, int) ([]int, api.Errno){tree.Leaves, tree.Nodes, tree.Levels} {
			l, _ := tell(b, 4)
			more, _ := tell(b, 4)
			l = l[:cap(l)]
			for i := range l {
				l[i] = -9
			}
			if slices.Contains(more[:cap(more)], -9) {
				t.Error("two answers share", more)
			}
		}
		sayLeaves(t, b, 4, 1, 1)
		sayNodes(t, b, 4, 1, 2, 3, 4)
		sayLevels(t, b, 4, 1, 1, 2, 1)
		if got := leftBehind(seq, -1); !slices.Equal(got, want) {
			t.Errorf("Walk now tells %v", got)
		}
	}
	if parts, _ := b.Parts(3); !slices.Equal(parts, []int{2, 0, 1}) {
		t.Error("the parts of 3 are now", parts)
	}
}

// askAll asks all calls of a handle.
func askAll(b *book.Book, h int) {
	seq, _ := tree.Walk(b, h)
	for path, g := range seq {
		tree.At(b, h, path)
		tree.Replace(b, h, path, 0)
		tree.Replace(b, h, path, g)
		tree.Replace(b, h, path, h)
		tree.Cut(b, h, len(path)+1)
	}
	tree.Leaves(b, h)
	tree.Nodes(b, h)
	tree.Levels(b, h)
	tree.Shape(b, h)
	tree.Fold(b, h, func(int, api.Spec, []int) int { return 1 })
}

// TestR7NotMade: a Slow is made by the first call of its Error, and nothing here is one; of what panics when it is called nothing is called.
func TestR7NotMade(t *testing.T) {
	b := book.New()
	slow := give(t, b, api.Spec{Kind: api.KindSlow, Text: "s"})
	parts := []int{slow}
	for _, kind := range []uint8{api.KindWrap, api.KindOver, api.KindVeil, api.KindTimed, api.KindHold} {
		parts = append(parts, give(t, b, api.Spec{Kind: kind}, slow))
	}
	parts = append(parts, give(t, b, api.Spec{Kind: api.KindFull}, parts[1]))
	for _, s := range []api.Spec{
		{Kind: api.KindEcho, Flag: true}, {Kind: api.KindLazy, Flag: true}, {Kind: api.KindTimed}, {Kind: api.KindPlaced}, {Kind: api.KindFull},
		{Kind: api.KindGuise, Nil: true}, {Kind: api.KindWrap, Nil: true}, {Kind: api.KindJoin, Nil: true}, {Kind: api.KindOpaque, Nil: true},
	} {
		parts = append(parts, give(t, b, s))
	}
	give(t, b, api.Spec{Kind: api.KindJoin}, parts...)
	for h := range b.Len() + 1 {
		askAll(b, h)
	}
	if made, ok := errorOf(t, b, slow).(*kinds.Slow); !ok || made.Made() {
		t.Error("no Slow, or its Error was called")
	}
}
