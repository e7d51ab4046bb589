package tree_test

import (
	"math"
	"slices"
	"testing"

	"errata/api"
	"errata/book"
	"errata/tree"
)

// sayCut holds that Cut answers a handle, and makes errors of these specs and no more.
func sayCut(t *testing.T, b *book.Book, h, depth int, made []string, want int) {
	t.Helper()
	n := b.Len()
	got, e := tree.Cut(b, h, depth)
	if got != want || e != api.OK {
		t.Errorf("Cut(%d, %d): %d %d, not %d", h, depth, got, e, want)
	}
	if news := madeSince(t, b, n); !slices.Equal(news, made) {
		t.Errorf("Cut(%d, %d) makes %q, not %q", h, depth, news, made)
	}
}

// sayNotCut holds that Cut answers an error, and makes nothing.
func sayNotCut(t *testing.T, b *book.Book, h, depth int, want api.Errno) {
	t.Helper()
	n := b.Len()
	if got, e := tree.Cut(b, h, depth); got != 0 || e != want || b.Len() != n {
		t.Errorf("Cut(%d, %d): %d %d, not %d; %d errors, not %d", h, depth, got, e, want, b.Len(), n)
	}
}

func TestP11_4Examples(t *testing.T) {
	b := example(t)
	sayCut(t, b, 4, 2, []string{
		told(api.Spec{Kind: api.KindJoin, Parts: []int{0, 0, 0}}),
		told(api.Spec{Kind: api.KindHold, Text: "h", Parts: []int{5}}),
	}, 6)
	sayCut(t, b, 4, 4, nil, 4)
	sayNotCut(t, b, 4, 0, api.ErrArg)
}

// TestP11_4Depths: each number is a depth, or it is ErrArg, of no error too.
func TestP11_4Depths(t *testing.T) {
	b := example(t)
	for h := range 5 {
		for _, depth := range []int{0, -1, -2, -64, math.MinInt} {
			sayNotCut(t, b, h, depth, api.ErrArg)
		}
		for _, depth := range []int{4, 5, 64, 65, 256, 257, 1 << 32, math.MaxInt} {
			sayCut(t, b, h, depth, nil, h)
		}
	}
	for _, depth := range []int{1, 2, 64} {
		sayCut(t, b, 0, depth, nil, 0)
		sayCut(t, b, 1, depth, nil, 1)
	}
	sayCut(t, b, 4, 1, []string{told(api.Spec{Kind: api.KindHold, Text: "h", Parts: []int{0}})}, 5)
	sayCut(t, b, 5, 1, nil, 5)
	sayCut(t, b, 4, 3, []string{
		told(api.Spec{Kind: api.KindWrap, Text: "w", Parts: []int{0}}),
		told(api.Spec{Kind: api.KindJoin, Parts: []int{6, 0, 1}}),
		told(api.Spec{Kind: api.KindHold, Text: "h", Parts: []int{7}}),
	}, 8)
}

// TestP11_4Order: all beneath a part, then it, then the next part; what stands on one level twice is made anew once, on two levels for each of them.
func TestP11_4Order(t *testing.T) {
	b := book.New()
	code := give(t, b, api.Spec{Kind: api.KindCode})
	over := func(text string, part int) int {
		return give(t, b, api.Spec{Kind: api.KindOver, Text: text}, part)
	}
	tell := func(kind uint8, text string, parts ...int) string {
		return told(api.Spec{Kind: kind, Text: text, Parts: parts})
	}
	low := over("low", code)
	left, right := over("left", low), over("right", low)
	h := give(t, b, api.Spec{Kind: api.KindJoin}, right, low, left, 0, right, code)
	n := b.Len()
	sayCut(t, b, h, 2, []string{
		tell(api.KindOver, "right", 0), tell(api.KindOver, "low", 0), tell(api.KindOver, "left", 0),
		tell(api.KindJoin, "", n+1, n+2, n+3, 0, n+1, code),
	}, n+4)
	n = b.Len()
	sayCut(t, b, h, 3, []string{
		tell(api.KindOver, "low", 0), tell(api.KindOver, "right", n+1), tell(api.KindOver, "left", n+1),
		tell(api.KindJoin, "", n+2, low, n+3, 0, n+2, code), // low fits where it stands by itself
	}, n+4)
	n = b.Len()
	both := give(t, b, api.Spec{Kind: api.KindJoin}, left, over("in", left))
	sayCut(t, b, both, 3, []string{
		tell(api.KindOver, "low", 0), tell(api.KindOver, "left", n+3), tell(api.KindOver, "left", 0), tell(api.KindOver, "in", n+5),
		tell(api.KindJoin, "", n+4, n+6),
	}, n+7)
}

// TestP11_4EveryKind: parts of each kind are cut off, and errors that have none stay.
func TestP11_4EveryKind(t *testing.T) {
	b := everyKind(t)
	for h := range b.Len() + 1 {
		made, want := cutOf(t, b, h, 1)
		got, e := tree.Cut(b, h, 1)
		if got != want || e != api.OK {
			t.Errorf("Cut(%d, 1): %d %d, not %d", h, got, e, want)
		}
		if len(made) == 1 && told(specOf(t, b, got)) != made[0] {
			t.Errorf("Cut(%d, 1): %s, not %s", h, told(specOf(t, b, got)), made[0])
		}
	}
}

func TestP11_4Drawn(t *testing.T) {
	most, again := 0, 0
	for _, b := range books(t) {
		if b.Len() > 100 {
			continue
		}
		for h := range b.Len() + 1 {
			for depth := range 12 {
				own := b.Copy()
				made, want := cutOf(t, own, h, depth+1)
				sayCut(t, own, h, depth+1, made, want)
				if size, _ := own.Size(want); len(made) > 0 && size > len(made)+5 {
					again++
				}
				most = max(most, len(made))
			}
		}
	}
	if most < 8 || again == 0 {
		t.Error("what was drawn: at most", most, "made, and made once for many", again)
	}
}

func TestP11_4Greatest(t *testing.T) {
	b := book.New()
	deep, great := deepest(t, b), greatest(t, b)
	for _, depth := range []int{1, 2, 31, 32, 62, 63, 64} {
		own := b.Copy()
		made, want := cutOf(t, own, deep, depth)
		if depth < 64 && len(made) != depth {
			t.Error("of the deepest are made", len(made))
		}
		sayCut(t, own, deep, depth, made, want)
	}
	for depth := range 3 {
		own := b.Copy()
		made, want := cutOf(t, own, great, depth+1)
		sayCut(t, own, great, depth+1, made, want)
	}
}

// TestP11_4Full: where there is no room for all nothing is made.
func TestP11_4Full(t *testing.T) {
	b := example(t)
	filled(t, b, 3)
	c := b.Copy()
	if h, e := tree.Cut(c, 4, 3); h != api.MaxBook || e != api.OK || c.Len() != api.MaxBook {
		t.Error("with room for just all:", h, e, c.Len())
	}
	for room := 2; room >= 0; room-- {
		filled(t, b, room)
		sayNotCut(t, b, 4, 3, api.ErrFull)
		sayNotCut(t, b, 4, 0, api.ErrArg)
	}
	sayNotCut(t, b, 4, 2, api.ErrFull)
	sayNotCut(t, b, 4, 1, api.ErrFull)
	for h, depth := range map[int]int{4: 4, 3: 3, 2: 2, 1: 1, 0: 1} {
		if g, e := tree.Cut(b, h, depth); g != h || e != api.OK {
			t.Errorf("Cut(%d, %d) in a full book: %d %d", h, depth, g, e)
		}
	}
}

// TestP11_4OneRoom: what stands twice needs room once.
func TestP11_4OneRoom(t *testing.T) {
	b := example(t)
	h := give(t, b, api.Spec{Kind: api.KindJoin}, 2, 2, 2)
	filled(t, b, 2)
	if g, e := tree.Cut(b, h, 2); g != api.MaxBook || e != api.OK {
		t.Error("with room for two:", g, e)
	}
}
