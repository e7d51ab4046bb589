package book_test

import (
	"slices"
	"strings"
	"testing"

	"errata/api"
	"errata/book"
)

func sayBulk(t *testing.T, b *book.Book, h, size, depth, length int) {
	t.Helper()
	s, e := b.Size(h)
	d, f := b.Depth(h)
	l, g := b.Length(h)
	if s != size || d != depth || l != length || e != api.OK || f != api.OK || g != api.OK {
		t.Errorf("%d: size %d, depth %d, length %d, not %d, %d, %d (%d %d %d)", h, s, d, l, size, depth, length, e, f, g)
	}
}

func TestP5_6Size(t *testing.T) {
	b := book.New()
	h := bigOne(t, b)
	sayBulk(t, b, h, 4096, 3, 63*62+61+63)
	for _, kind := range []uint8{api.KindHold, api.KindWrap, api.KindOver, api.KindJoin, api.KindTimed, api.KindVeil} {
		sayRefused(t, b, "a size of 4097", api.Spec{Kind: kind, Parts: []int{h}}, api.ErrSize)
	}
	sayRefused(t, b, "an Opaque of a size of 4097", api.Spec{Kind: 26, Items: []string{"n"}, Parts: []int{h}}, api.ErrSize)
	row := specOf(t, b, h).Parts[0]
	sayRefused(t, b, "64 parts of 64", api.Spec{Kind: api.KindJoin, Parts: slices.Repeat([]int{row}, 64)}, api.ErrSize)
	sayRefused(t, b, "64 parts of 4096", api.Spec{Kind: api.KindJoin, Parts: slices.Repeat([]int{h}, 64)}, api.ErrSize)
	join(t, b, append(slices.Repeat([]int{row}, 63), 0)...)
}

func TestP5_6Depth(t *testing.T) {
	b := book.New()
	h := 0
	for depth := 1; depth <= 64; depth++ {
		h = wrap(t, b, "w", h)
		sayBulk(t, b, h, depth, depth, 3*depth-2)
	}
	kindsAbout := []uint8{api.KindHold, api.KindWrap, api.KindOver, api.KindJoin, api.KindTimed, api.KindVeil, api.KindFull}
	for _, kind := range kindsAbout {
		sayRefused(t, b, "a depth of 65", api.Spec{Kind: kind, Parts: []int{h}}, api.ErrDeep)
		give(t, b, api.Spec{Kind: kind, Parts: []int{h - 1}})
	}
	sayRefused(t, b, "an Opaque of a depth of 65", api.Spec{Kind: 26, Items: []string{"n"}, Parts: []int{0, 1, h, 1}}, api.ErrDeep)
	sayRefused(t, b, "a Join of a depth of 65", api.Spec{Kind: api.KindJoin, Parts: []int{h, 1}}, api.ErrDeep)
	join(t, b, 1, h-1, 2)
}

func TestP5_6Length(t *testing.T) {
	b := book.New()
	h := longOne(t, b)
	sayBulk(t, b, h, 17, 2, 65536)
	if text, p, e := b.Text(h); len(text) != 65536 || p != (api.Panic{}) || e != api.OK {
		t.Error("its text:", len(text), p, e)
	}
	sayRefused(t, b, "a Join with no bytes and a break", api.Spec{Kind: api.KindJoin, Parts: []int{h, note(t, b, "")}}, api.ErrText)
	for _, kind := range []uint8{api.KindWrap, api.KindOver, api.KindVeil} {
		sayRefused(t, b, "a text with a mark", api.Spec{Kind: kind, Parts: []int{h}}, api.ErrText)
	}
	for _, kind := range []uint8{api.KindHold, api.KindTimed, api.KindJoin} {
		give(t, b, api.Spec{Kind: kind, Parts: []int{h}})
	}
	give(t, b, api.Spec{Kind: 26, Text: strings.Repeat("o", 4096), Items: []string{"n"}, Parts: []int{h, h}})
	join(t, b, h, 0, 0)
	parts := specOf(t, b, h).Parts
	one := note(t, b, strings.Repeat("l", 4096-14))
	sayRefused(t, b, "a length of 65537", api.Spec{Kind: api.KindJoin, Parts: append(parts[:15], one)}, api.ErrText)
	sayRefused(t, b, "a length of 2 * 65536", api.Spec{Kind: api.KindJoin, Parts: []int{h, h}}, api.ErrText)
}

// TestP5_6LengthWithout: what would panic by itself has no length, and its parts count nothing.
func TestP5_6LengthWithout(t *testing.T) {
	b := book.New()
	harsh := give(t, b, api.Spec{Kind: api.KindLazy, Text: strings.Repeat("z", 4096), Flag: true})
	sayBulk(t, b, harsh, 1, 1, 0)
	all := join(t, b, slices.Repeat([]int{harsh}, 64)...)
	sayBulk(t, b, all, 65, 2, 63)
	nothing := give(t, b, api.Spec{Kind: api.KindWrap, Nil: true})
	sayBulk(t, b, wrap(t, b, "ab", nothing), 2, 2, 4)
}

func TestP5_6Words(t *testing.T) {
	b := book.New()
	h := wordyOne(t, b)
	sayBulk(t, b, h, 5, 2, 3)
	for _, s := range []api.Spec{{Kind: 13}, {Kind: 14}, {Kind: 15}, {Kind: 16}, {Kind: 17}, {Kind: 20}} {
		s.Parts = []int{h}
		give(t, b, s)
		if s.Kind < 16 {
			s.Text = "x"
			sayRefused(t, b, "1048577 words", s, api.ErrText)
		}
	}
	give(t, b, api.Spec{Kind: 26, Nil: true})
	sayRefused(t, b, "an Opaque's name", api.Spec{Kind: 26, Items: []string{"n"}, Parts: []int{h}}, api.ErrText)
	sayRefused(t, b, "1048577 words", api.Spec{Kind: 16, Parts: []int{h, note(t, b, "x")}}, api.ErrText)
	bag := give(t, b, api.Spec{Kind: 12, Items: []string{"x"}})
	sayRefused(t, b, "an Item more", api.Spec{Kind: 16, Parts: []int{bag, h}}, api.ErrText)
	join(t, b, h, give(t, b, api.Spec{Kind: api.KindCode}), 0, note(t, b, ""))
	less := specOf(t, b, h).Parts[:3]
	whole := join(t, b, append(less, wrap(t, b, strings.Repeat("x", 4096), 0))...)
	give(t, b, api.Spec{Kind: 13, Text: strings.Repeat("x", 4096), Parts: []int{whole}})
	sayRefused(t, b, "what a Hold hides, twice", api.Spec{Kind: 16, Parts: []int{whole, whole}}, api.ErrText)
}

func TestP5_6Full(t *testing.T) {
	b := book.New()
	for range api.MaxBook - 1 {
		give(t, b, api.Spec{Kind: api.KindCode, Number: 1})
	}
	c := b.Copy()
	wrap(t, b, "the last", 1)
	sayRefused(t, b, "one more", api.Spec{Kind: api.KindCode}, api.ErrFull)
	sayRefused(t, b, "one more, that may not be", api.Spec{Kind: 0}, api.ErrKind)
	sayRefused(t, b.Copy(), "one more in a copy", api.Spec{Kind: api.KindCode}, api.ErrFull)
	note(t, c, "the last of the copy")
	sayRefused(t, c, "one more", api.Spec{Kind: api.KindCode}, api.ErrFull)
	if text, _, e := b.Text(api.MaxBook); text != "the last: code 1" || e != api.OK {
		t.Error(text, e)
	}
	if text, _, e := c.Text(api.MaxBook); text != "the last of the copy" || e != api.OK {
		t.Error(text, e)
	}
	n := 0
	for h := range b.Each() {
		n++
		if h != n {
			t.Fatal("Each tells", h, "as the", n, "th")
		}
	}
	if n != api.MaxBook {
		t.Error("Each tells", n)
	}
}

func TestP5_6Drawn(t *testing.T) {
	deepest := 0
	for seed := range int64(30) {
		b, m := someBook(t, 100+seed, 200)
		for h := 1; h <= b.Len(); h++ {
			size, _ := b.Size(h)
			depth, _ := b.Depth(h)
			length, _ := b.Length(h)
			if size < 1 || size > 4096 || depth < 1 || depth > 64 || length < 0 || length > 65536 || m.words(h) > 1048576 {
				t.Errorf("%d: size %d, depth %d, length %d", h, size, depth, length)
			}
			deepest = max(deepest, depth)
			text, p, e := b.Text(h)
			if e != api.OK || p == (api.Panic{}) && len(text) != length || p != (api.Panic{}) && text != "" {
				t.Errorf("%d: %d bytes, %v, %d, and a length of %d", h, len(text), p, e, length)
			}
		}
	}
	if deepest < 10 {
		t.Error("none is deeper than", deepest)
	}
}
