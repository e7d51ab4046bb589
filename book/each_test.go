package book_test

import (
	"slices"
	"testing"

	"errata/api"
	"errata/book"
)

// gone is what a round of Each tells, up to so many.
func gone(t *testing.T, b *book.Book, most int) []int {
	t.Helper()
	var all []int
	for h, err := range b.Each() {
		if !very(err, errorOf(t, b, h)) {
			t.Errorf("Each tells another error of %d", h)
		}
		all = append(all, h)
		if len(all) == most {
			break
		}
	}
	return all
}

func upTo(n int) []int {
	var all []int
	for h := 1; h <= n; h++ {
		all = append(all, h)
	}
	return all
}

func TestP5_4Each(t *testing.T) {
	b := everyKind(t)
	for _, most := range []int{1, 2, b.Len() - 1, b.Len(), b.Len() + 1, 1 << 20} {
		if got := gone(t, b, most); !slices.Equal(got, upTo(min(most, b.Len()))) {
			t.Errorf("Each tells %v", got)
		}
	}
	if got := gone(t, book.New(), 9); len(got) != 0 {
		t.Error("Each of an empty book tells", got)
	}
	var none *book.Book
	if each := none.Each(); each == nil || len(gone(t, none, 9)) != 0 {
		t.Error("Each of a nil book")
	}
	for h, err := range b.Copy().Each() {
		if !very(err, errorOf(t, b, h)) {
			t.Errorf("Each of a copy tells another error of %d", h)
		}
	}
}

// TestR8EachOfThen tells what there was when Each was called.
func TestR8EachOfThen(t *testing.T) {
	b := book.New()
	before := b.Each()
	note(t, b, "n")
	note(t, b, "m")
	each := b.Each()
	for range 3 {
		note(t, b, "later")
		n := 0
		for h := range each {
			n++
			if h != n {
				t.Error("Each tells", h)
			}
			wrap(t, b, "meanwhile", h)
		}
		if n != 2 {
			t.Error("Each tells", n, "of 2")
		}
	}
	for h := range before {
		t.Error("Each of an empty book tells", h)
	}
	if got := gone(t, b, 1<<20); !slices.Equal(got, upTo(b.Len())) || b.Len() != 11 {
		t.Error("Each tells", got)
	}
}

// TestR8EachWithin goes over one Each while it is on, and leaves it anywhere.
func TestR8EachWithin(t *testing.T) {
	b := everyKind(t)
	each := b.Each()
	var pairs, want [][2]int
	for h := range each {
		for g := range each {
			if g > h {
				break
			}
			pairs = append(pairs, [2]int{h, g})
		}
	}
	for h := 1; h <= b.Len(); h++ {
		for g := 1; g <= h; g++ {
			want = append(want, [2]int{h, g})
		}
	}
	if !slices.Equal(pairs, want) {
		t.Error("two rounds disturb one another")
	}
	calls := 0
	each(func(int, error) bool {
		calls++
		return calls < 3
	})
	if calls != 3 {
		t.Error("left at the third, it tells", calls)
	}
}

func TestP5_4Copy(t *testing.T) {
	b := everyKind(t)
	n := b.Len()
	c := b.Copy()
	if c == nil || c == b || c.Len() != n {
		t.Fatal("no copy")
	}
	for h := range c.Len() + 1 {
		if !very(errorOf(t, b, h), errorOf(t, c, h)) {
			t.Errorf("%d is another error in the copy", h)
		}
	}
	for h := 1; h <= n; h++ {
		if !sameSpec(specOf(t, b, h), specOf(t, c, h)) {
			t.Errorf("%d is of another spec in the copy", h)
		}
		size, _ := b.Size(h)
		depth, _ := b.Depth(h)
		length, _ := b.Length(h)
		sayBulk(t, c, h, size, depth, length)
	}
	var none *book.Book
	if none.Copy() != nil {
		t.Error("a copy of a nil book")
	}
	if book.New().Copy() == nil || book.New().Copy().Len() != 0 {
		t.Error("a copy of an empty book")
	}
}

// TestP5_4CopyGrowsApart: what is made in one book is not in the other, whoever makes first, and however often.
func TestP5_4CopyGrowsApart(t *testing.T) {
	for n := range 20 {
		b := book.New()
		for range n {
			note(t, b, "both")
		}
		c := b.Copy()
		d := c.Copy()
		all := []*book.Book{b, c, d}
		if n%2 == 0 {
			all = []*book.Book{d, c, b}
		}
		for range 5 {
			note(t, all[0], "first")
			note(t, all[1], "second")
		}
		wrap(t, all[0], "w", n+5)
		for i, want := range []int{n + 6, n + 5, n} {
			if all[i].Len() != want || len(gone(t, all[i], 1<<20)) != want {
				t.Errorf("%d errors, not %d", all[i].Len(), want)
			}
			for h := 1; h <= all[i].Len(); h++ {
				text, _, _ := all[i].Text(h)
				if h <= n && text != "both" || h > n && h <= n+5 && text != []string{"first", "second", ""}[i] {
					t.Errorf("book %d: %d is %s", i, h, text)
				}
			}
		}
		sayAsked(t, all[2], n+1, api.ErrHandle, api.ErrHandle)
		sayRefused(t, all[1], "a Wrap about what the other one has", api.Spec{Kind: api.KindWrap, Parts: []int{n + 6}}, api.ErrHandle)
	}
}

func TestP5_4Examples(t *testing.T) {
	b := book.New()
	give(t, b, api.Spec{Kind: api.KindCode, Number: 7})
	wrap(t, b, "w", 1)
	join(t, b, 1, 2, 0)
	give(t, b, api.Spec{Kind: api.KindPlain, Nil: true})
	give(t, b, api.Spec{Kind: api.KindLazy, Text: "x", Flag: true})
	c := b.Copy()
	if h := give(t, c, api.Spec{Kind: api.KindCode}); h != 6 || b.Len() != 5 || errorOf(t, b, 2) != errorOf(t, c, 2) {
		t.Error(h, b.Len())
	}
}
