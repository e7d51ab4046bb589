package tree_test

import (
	"slices"
	"strconv"
	"strings"
	"testing"

	"errata/api"
	"errata/book"
	"errata/tree"
)

func sayLeaves(t *testing.T, b *book.Book, h int, want ...int) {
	t.Helper()
	if got, e := tree.Leaves(b, h); !slices.Equal(got, want) || e != api.OK {
		t.Errorf("Leaves(%d): %v %d, not %v", h, got, e, want)
	}
}

func sayNodes(t *testing.T, b *book.Book, h int, want ...int) {
	t.Helper()
	if got, e := tree.Nodes(b, h); !slices.Equal(got, want) || e != api.OK {
		t.Errorf("Nodes(%d): %v %d, not %v", h, got, e, want)
	}
}

func sayLevels(t *testing.T, b *book.Book, h int, want ...int) {
	t.Helper()
	if got, e := tree.Levels(b, h); !slices.Equal(got, want) || e != api.OK {
		t.Errorf("Levels(%d): %v %d, not %v", h, got, e, want)
	}
}

func sayShape(t *testing.T, b *book.Book, h int, want string) {
	t.Helper()
	if got, e := tree.Shape(b, h); got != want || e != api.OK {
		t.Errorf("Shape(%d): %q %d, not %q", h, got, e, want)
	}
}

func TestP11_2Examples(t *testing.T) {
	b := example(t)
	sayLeaves(t, b, 4, 1, 1)
	sayNodes(t, b, 4, 1, 2, 3, 4)
	sayLevels(t, b, 4, 1, 1, 2, 1)
	sayShape(t, b, 4, "13(16(14(1),.,1))")
	sayShape(t, b, give(t, b, api.Spec{Kind: api.KindPlain, Nil: true}), "9n")
	sayShape(t, b, 0, ".")
}

func TestP11_2NoError(t *testing.T) {
	b := example(t)
	sayLeaves(t, b, 0)
	sayNodes(t, b, 0)
	sayLevels(t, b, 0)
	sayShape(t, b, 0, ".")
}

// TestP11_2Leaves: what has no parts, or none that is an error, is a leaf; a typed nil as a part is an error.
func TestP11_2Leaves(t *testing.T) {
	b := book.New()
	none := give(t, b, api.Spec{Kind: api.KindJoin})
	noErrors := give(t, b, api.Spec{Kind: api.KindJoin}, 0, 0)
	wrap := give(t, b, api.Spec{Kind: api.KindWrap}, 0)
	typed := give(t, b, api.Spec{Kind: api.KindWrap, Nil: true})
	about := give(t, b, api.Spec{Kind: api.KindOver}, typed)
	for _, h := range []int{none, noErrors, wrap, typed} {
		sayLeaves(t, b, h, h)
		sayLevels(t, b, h, 1)
	}
	sayLeaves(t, b, about, typed)
	h := give(t, b, api.Spec{Kind: api.KindJoin}, about, 0, wrap, none, about, noErrors)
	sayLeaves(t, b, h, typed, wrap, none, typed, noErrors)
	sayNodes(t, b, h, none, noErrors, wrap, typed, about, h)
	sayLevels(t, b, h, 1, 5, 2)
}

func TestP11_2Shape(t *testing.T) {
	b := book.New()
	for h, want := range []string{"16", "16(.)", "16(.,.)", "14n", "14", "14(.)", "23n", "26", "25", "18(.)"} {
		s := []api.Spec{
			{Kind: 16}, {Kind: 16, Parts: []int{0}}, {Kind: 16, Parts: []int{0, 0}}, {Kind: 14, Nil: true}, {Kind: 14, Text: "w"}, {Kind: 14, Parts: []int{0}},
			{Kind: 23, Number: 3, Nil: true}, {Kind: 26, Text: "o", Items: []string{"n"}}, {Kind: 25}, {Kind: 18, Parts: []int{0}},
		}[h]
		sayShape(t, b, give(t, b, s, s.Parts...), want)
	}
	sayShape(t, b, give(t, b, api.Spec{Kind: 26, Items: []string{"n"}}, 4, 0, 3, 5, 4), "26(14n,.,16(.,.),14,14n)")
}

// shapeOf is a shape by the chapter's words.
func shapeOf(t *testing.T, b *book.Book, h int) string {
	t.Helper()
	if h == 0 {
		return "."
	}
	s := specOf(t, b, h)
	shape := strconv.Itoa(int(s.Kind))
	if s.Nil {
		return shape + "n"
	}
	if len(s.Parts) == 0 {
		return shape
	}
	var parts []string
	for _, part := range s.Parts {
		parts = append(parts, shapeOf(t, b, part))
	}
	return shape + "(" + strings.Join(parts, ",") + ")"
}

// sayTold holds all that is told of an error against its nodes.
func sayTold(t *testing.T, b *book.Book, h int) {
	t.Helper()
	var leaves, all []int
	var levels [api.MaxDepth]int
	deep := 0
	for _, n := range nodesOf(t, b, h) {
		all = append(all, n.h)
		levels[len(n.path)]++
		deep = max(deep, len(n.path)+1)
		if !slices.ContainsFunc(specOf(t, b, n.h).Parts, func(part int) bool { return part != 0 }) {
			leaves = append(leaves, n.h)
		}
	}
	slices.Sort(all)
	sayLeaves(t, b, h, leaves...)
	sayNodes(t, b, h, slices.Compact(all)...)
	sayLevels(t, b, h, levels[:deep]...)
	sayShape(t, b, h, shapeOf(t, b, h))
}

func TestP11_2Drawn(t *testing.T) {
	for _, b := range books(t) {
		for h := range b.Len() + 1 {
			sayTold(t, b, h)
		}
	}
}

func TestP11_2Greatest(t *testing.T) {
	b := book.New()
	deep, great := deepest(t, b), greatest(t, b)
	sayTold(t, b, deep)
	sayTold(t, b, great)
	sayLevels(t, b, great, 1, 64, 63*63+62)
	if leaves, _ := tree.Leaves(b, great); len(leaves) != 63*63+62 {
		t.Error("leaves of the greatest:", len(leaves))
	}
	if levels, _ := tree.Levels(b, deep); len(levels) != api.MaxDepth {
		t.Error("levels of the deepest:", levels)
	}
}
