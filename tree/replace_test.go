package tree_test

import (
	"slices"
	"strings"
	"testing"

	"errata/api"
	"errata/book"
	"errata/tree"
)

// sayReplaced holds that Replace answers a handle, and makes errors of these specs and no more.
func sayReplaced(t *testing.T, b *book.Book, h int, path string, g int, made []string, want int) {
	t.Helper()
	n := b.Len()
	got, e := tree.Replace(b, h, path, g)
	if got != want || e != api.OK {
		t.Errorf("Replace(%d, %q, %d): %d %d, not %d", h, path, g, got, e, want)
	}
	if news := madeSince(t, b, n); !slices.Equal(news, made) {
		t.Errorf("Replace(%d, %q, %d) makes %q, not %q", h, path, g, news, made)
	}
}

// sayNotReplaced holds that Replace answers an error, and makes nothing.
func sayNotReplaced(t *testing.T, b *book.Book, h int, path string, g int, want api.Errno) {
	t.Helper()
	n := b.Len()
	if got, e := tree.Replace(b, h, path, g); got != 0 || e != want || b.Len() != n {
		t.Errorf("Replace(%d, %q, %d): %d %d, not %d; %d errors, not %d", h, path, g, got, e, want, b.Len(), n)
	}
}

func TestP11_3Examples(t *testing.T) {
	b := example(t)
	sayReplaced(t, b, 4, "\x00\x00\x00", 2, []string{
		told(api.Spec{Kind: api.KindWrap, Text: "w", Parts: []int{2}}),
		told(api.Spec{Kind: api.KindJoin, Parts: []int{5, 0, 1}}),
		told(api.Spec{Kind: api.KindHold, Text: "h", Parts: []int{6}}),
	}, 7)
	sayReplaced(t, b, 4, "\x00\x02", 1, nil, 4)
	sayReplaced(t, b, 4, "", 2, nil, 2)
	plain := give(t, b, api.Spec{Kind: api.KindPlain})
	placed := give(t, b, api.Spec{Kind: api.KindPlaced}, plain)
	sayNotReplaced(t, b, placed, "\x00", 1, api.ErrPart)
}

// TestP11_3NoError: no error may be put in an error's place, and the other way round.
func TestP11_3NoError(t *testing.T) {
	b := example(t)
	sayReplaced(t, b, 4, "", 0, nil, 0)
	sayReplaced(t, b, 0, "", 0, nil, 0)
	sayReplaced(t, b, 0, "", 3, nil, 3)
	sayReplaced(t, b, 3, "\x00", 0, []string{told(api.Spec{Kind: api.KindJoin, Parts: []int{0, 0, 1}})}, 5)
	sayReplaced(t, b, 3, "\x01", 1, []string{told(api.Spec{Kind: api.KindJoin, Parts: []int{2, 1, 1}})}, 6)
	sayReplaced(t, b, 3, "\x01", 0, nil, 3)
	sayReplaced(t, b, 6, "\x01", 0, []string{told(specOf(t, b, 3))}, 7)
	sayReplaced(t, b, 2, "\x00", 0, []string{told(api.Spec{Kind: api.KindWrap, Text: "w", Parts: []int{0}})}, 8)
	for _, path := range []string{"\x00", "\x01\x00", "\xff"} {
		sayNotReplaced(t, b, 0, path, 1, api.ErrPath)
	}
	sayNotReplaced(t, b, 3, "\x01\x00", 1, api.ErrPath)
	sayNotReplaced(t, b, 3, "\x03", 1, api.ErrPath)
	sayNotReplaced(t, b, 1, "\x00", 1, api.ErrPath)
}

// TestP11_3Specs: of an error made anew just the one part is another.
func TestP11_3Specs(t *testing.T) {
	b := book.New()
	plain := give(t, b, api.Spec{Kind: api.KindPlain, Text: "p"})
	nothing := give(t, b, api.Spec{Kind: api.KindPlain, Nil: true})
	wrap := give(t, b, api.Spec{Kind: api.KindWrap}, plain)
	for _, s := range []api.Spec{
		{Kind: api.KindHold, Text: "h"}, {Kind: api.KindWrap, Text: "w"}, {Kind: api.KindOver, Text: "o"}, {Kind: api.KindTimed, Flag: true}, {Kind: api.KindVeil}, {Kind: api.KindJoin},
		{Kind: api.KindPlaced, Number: -3}, {Kind: api.KindOpaque, Text: "o", Mask: 1 << 31, Items: []string{"n"}},
	} {
		h := give(t, b, s, plain)
		for _, part := range []int{nothing, 0} {
			s.Parts = []int{part}
			sayReplaced(t, b, h, "\x00", part, []string{told(s)}, b.Len()+1)
		}
	}
	full := api.Spec{Kind: api.KindFull, Number: 9, Text: "f"}
	h := give(t, b, full, wrap)
	full.Parts = []int{b.Len() + 1}
	sayReplaced(t, b, h, "\x00\x00", nothing, []string{told(api.Spec{Kind: api.KindWrap, Parts: []int{nothing}}), told(full)}, b.Len()+2)
}

// TestP11_3Drawn: each place of drawn errors, with several errors put there.
func TestP11_3Drawn(t *testing.T) {
	refused, deep := 0, 0
	for _, b := range books(t) {
		if b.Len() == 0 || b.Len() > 100 {
			continue
		}
		for h := range b.Len() + 1 {
			at := places(t, b, h)
			for path, part := range at {
				if len(path) > 8 {
					continue
				}
				for _, g := range []int{0, 1, part, h, h / 2} {
					own := b.Copy()
					made, want := replacedOf(t, own, at, path, g)
					if got, e := tree.Replace(b.Copy(), h, path, g); e != api.OK {
						refused++
						sayRefusal(t, own, at, path, g, got, e)
						continue
					}
					sayReplaced(t, own, h, path, g, made, want)
					deep = max(deep, len(made))
				}
			}
		}
	}
	if refused == 0 || deep < 5 {
		t.Error("what was drawn:", refused, "refused, and at most", deep, "made")
	}
}

// sayRefusal holds a refusal against what Make says, asked for one error after another.
func sayRefusal(t *testing.T, b *book.Book, at map[string]int, path string, g int, got int, e api.Errno) {
	t.Helper()
	sayNotReplaced(t, b, at[""], path, g, e)
	c, want := b.Copy(), api.OK
	for path != "" && want == api.OK {
		last := path[len(path)-1]
		path = path[:len(path)-1]
		s := specOf(t, c, at[path])
		s.Parts[last] = g
		g, want = c.Make(s)
	}
	if got != 0 || e != want {
		t.Errorf("Replace of %d: %d %d, Make says %d", at[""], got, e, want)
	}
}

// TestP11_3Refused: where a Make is refused, wherever on the way up, nothing is made.
func TestP11_3Refused(t *testing.T) {
	b := book.New()
	code := give(t, b, api.Spec{Kind: api.KindCode})
	full := give(t, b, api.Spec{Kind: api.KindFull}, give(t, b, api.Spec{Kind: api.KindWrap}))
	join := give(t, b, api.Spec{Kind: api.KindJoin}, code, full)
	sayNotReplaced(t, b, full, "\x00", code, api.ErrPart)
	sayNotReplaced(t, b, join, "\x01\x00", code, api.ErrPart)

	deep := deepest(t, b)
	sayNotReplaced(t, b, join, "\x00", deep, api.ErrDeep)
	over := give(t, b, api.Spec{Kind: api.KindOver}, give(t, b, api.Spec{Kind: api.KindOver}, code))
	sayNotReplaced(t, b, over, "\x00\x00", deep-1, api.ErrDeep) // the upper one is too deep
	sayReplaced(t, b, over, "\x00\x00", deep-2, []string{
		told(api.Spec{Kind: api.KindOver, Parts: []int{deep - 2}}), told(api.Spec{Kind: api.KindOver, Parts: []int{b.Len() + 1}}),
	}, b.Len()+2)

	great := greatest(t, b)
	sayNotReplaced(t, b, over, "\x00", great, api.ErrSize)
	sayNotReplaced(t, b, great, "\x00\x00", join, api.ErrSize)
	row := specOf(t, b, great).Parts[0]
	wide := give(t, b, api.Spec{Kind: api.KindJoin}, great-1, row, row)
	sayNotReplaced(t, b, give(t, b, api.Spec{Kind: api.KindHold}, give(t, b, api.Spec{Kind: api.KindHold}, wide)), "\x00\x00", great, api.ErrSize)
	some := give(t, b, api.Spec{Kind: api.KindJoin}, slices.Repeat([]int{row}, 60)...)
	sayNotReplaced(t, b, give(t, b, api.Spec{Kind: api.KindJoin}, code, wide, some), "\x00", some, api.ErrSize)

	long := give(t, b, api.Spec{Kind: api.KindNote, Text: strings.Repeat("l", api.MaxWord)})
	texts := give(t, b, api.Spec{Kind: api.KindJoin}, slices.Repeat([]int{long}, 15)...)
	wrap := give(t, b, api.Spec{Kind: api.KindWrap, Text: strings.Repeat("w", api.MaxWord)}, code)
	sayNotReplaced(t, b, give(t, b, api.Spec{Kind: api.KindVeil}, wrap), "\x00\x00", texts, api.ErrText)
}

// TestP11_3RefusedWords: more words than there may be are refused, also where nobody tells them.
func TestP11_3RefusedWords(t *testing.T) {
	b := book.New()
	bag := give(t, b, api.Spec{Kind: api.KindBag, Items: slices.Repeat([]string{strings.Repeat("i", api.MaxWord)}, api.MaxItems)})
	bags := give(t, b, api.Spec{Kind: api.KindJoin}, bag, bag, bag, bag)
	h := give(t, b, api.Spec{Kind: api.KindVeil}, give(t, b, api.Spec{Kind: api.KindHold, Text: "x"}, 0))
	sayNotReplaced(t, b, h, "\x00\x00", bags, api.ErrText)
	h = give(t, b, api.Spec{Kind: api.KindHold, Text: "x"}, give(t, b, api.Spec{Kind: api.KindVeil}, 0))
	sayNotReplaced(t, b, h, "\x00\x00", bags, api.ErrText)
}

// TestP11_3Full: a book that has no room for all is left as it was; what Make says first is said.
func TestP11_3Full(t *testing.T) {
	b := example(t)
	deep := deepest(t, b)
	over := give(t, b, api.Spec{Kind: api.KindOver}, give(t, b, api.Spec{Kind: api.KindOver}, 1))
	placed := give(t, b, api.Spec{Kind: api.KindPlaced}, 0)
	filled(t, b, 3)
	c := b.Copy()
	if h, e := tree.Replace(c, 4, "\x00\x00\x00", 2); h != api.MaxBook || e != api.OK || c.Len() != api.MaxBook {
		t.Error("with room for just all:", h, e, c.Len())
	}
	for room := 2; room >= 0; room-- {
		filled(t, b, room)
		sayNotReplaced(t, b, 4, "\x00\x00\x00", 2, api.ErrFull)
		sayNotReplaced(t, b, placed, "\x00", 1, api.ErrPart)
		sayNotReplaced(t, b, over, "\x00", deep, api.ErrDeep)
		want := api.ErrDeep // said of the upper one, if there is room for the lower one
		if room == 0 {
			want = api.ErrFull
		}
		sayNotReplaced(t, b, over, "\x00\x00", deep-1, want)
	}
	for path, g := range map[string]int{"": 1, "\x00\x00\x00": 1, "\x00\x01": 0, "\x00": 3} {
		want := 4
		if path == "" {
			want = 1
		}
		if h, e := tree.Replace(b, 4, path, g); h != want || e != api.OK {
			t.Errorf("Replace of %q by itself in a full book: %d %d", path, h, e)
		}
	}
}
