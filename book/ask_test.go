package book_test

import (
	"math"
	"slices"
	"testing"

	"errata/api"
	"errata/book"
	"errata/kinds"
)

// sayAsked asks all of a handle, and holds that each call answers this error, and zeros beside it.
func sayAsked(t *testing.T, b *book.Book, h int, want, ofSpec api.Errno) {
	t.Helper()
	err, e := b.Error(h)
	s, f := b.Spec(h)
	kind, g := b.Kind(h)
	parts, i := b.Parts(h)
	size, j := b.Size(h)
	depth, k := b.Depth(h)
	length, l := b.Length(h)
	text, p, m := b.Text(h)
	if e != want || f != ofSpec || g != ofSpec || i != want || j != want || k != want || l != want || m != want {
		t.Errorf("%d: %d %d %d %d %d %d %d %d, not %d, of Spec and Kind %d", h, e, f, g, i, j, k, l, m, want, ofSpec)
	}
	if err != nil || !sameSpec(s, api.Spec{}) || kind != 0 || len(parts) != 0 || size != 0 || depth != 0 || length != 0 || text != "" || p != (api.Panic{}) {
		t.Errorf("%d: %v %v %d %v %d %d %d %q %v, not all zero", h, err, s, kind, parts, size, depth, length, text, p)
	}
}

func TestP5_2NoError(t *testing.T) {
	b := book.New()
	sayAsked(t, b, 0, api.OK, api.ErrHandle)
	note(t, b, "n")
	sayAsked(t, b, 0, api.OK, api.ErrHandle)
}

func TestP5_2HandlesThatNameNone(t *testing.T) {
	b := book.New()
	for n := range 4 {
		for _, h := range []int{-1, n + 1, n + 2, -n - 1, math.MaxInt, math.MinInt, 1 << 32, 1<<32 + 1} {
			sayAsked(t, b, h, api.ErrHandle, api.ErrHandle)
		}
		wrap(t, b, "w", n)
	}
}

func TestP5_2NilBook(t *testing.T) {
	var b *book.Book
	for _, h := range []int{0, 1, -1, 2, math.MaxInt} {
		sayAsked(t, b, h, api.ErrNil, api.ErrNil)
	}
	sayRefused(t, b, "a Code", api.Spec{Kind: 1}, api.ErrNil)
	if b.Len() != 0 {
		t.Error("Len of a nil book:", b.Len())
	}
}

// TestR1BareBook: of a book that New did not make nothing is promised but that no call panics.
func TestR1BareBook(t *testing.T) {
	var b book.Book
	for _, h := range []int{0, 1, -1} {
		b.Make(api.Spec{Kind: api.KindWrap, Parts: []int{h}})
		b.Error(h)
		b.Spec(h)
		b.Kind(h)
		b.Parts(h)
		b.Size(h)
		b.Depth(h)
		b.Length(h)
		b.Text(h)
	}
	for range b.Each() {
		b.Copy().Len()
	}
}

func TestP5_2Examples(t *testing.T) {
	b := book.New()
	give(t, b, api.Spec{Kind: api.KindCode, Number: 7})
	wrap(t, b, "w", 1)
	sayBulk(t, b, join(t, b, 1, 2, 0), 4, 3, 16)
	sayBulk(t, b, 0, 0, 0, 0)
	grader, ok := errorOf(t, b, 1).(api.Grader)
	if !ok || grader.Grade() != 7 {
		t.Error("1 is no Grader of 7")
	}
	if parts, e := b.Parts(3); !slices.Equal(parts, []int{1, 2, 0}) || e != api.OK {
		t.Error("Parts of 3:", parts, e)
	}
	if kind, e := b.Kind(3); kind != api.KindJoin || e != api.OK {
		t.Error("Kind of 3:", kind, e)
	}
}

// TestP5_2Specs: each kind's Spec comes out field by field, with floats as they are.
func TestP5_2Specs(t *testing.T) {
	b := book.New()
	var all []api.Spec
	for _, r := range rows() {
		all = append(all, r.spec)
		if r.isNil {
			all = append(all, r.nothing())
		}
	}
	nan, minus0 := math.NaN(), math.Copysign(0, -1)
	for _, re := range []float64{nan, minus0, math.Inf(1), math.Inf(-1), math.MaxFloat64, 5e-324} {
		all = append(all, api.Spec{Kind: 3, Re: re}, api.Spec{Kind: 4, Re: re, Im: nan}, api.Spec{Kind: 4, Im: re}, api.Spec{Kind: 19, Re: re}, api.Spec{Kind: 23, Number: 2, Re: re})
	}
	all = append(all, api.Spec{Kind: 12, Items: []string{"", "\x00", "\xff", "a\nb"}}, api.Spec{Kind: 26, Mask: math.MaxUint32, Items: []string{"n"}, Parts: []int{0, 0}}, api.Spec{Kind: 1, Number: math.MinInt16}, api.Spec{Kind: 23, Number: 1, Small: math.MinInt8})
	for _, s := range all {
		h := give(t, b, s)
		got := specOf(t, b, h)
		if !sameSpec(got, s) || math.Signbit(got.Re) != math.Signbit(s.Re) || math.Signbit(got.Im) != math.Signbit(s.Im) {
			t.Errorf("%d is of %+v, not %+v", h, got, s)
		}
		if kind, e := b.Kind(h); kind != s.Kind || e != api.OK {
			t.Errorf("%d is of the kind %d, not %d", h, kind, s.Kind)
		}
	}
}

func TestP5_2Drawn(t *testing.T) {
	for seed := range int64(30) {
		b, m := someBook(t, 200+seed, 120)
		for h := 1; h <= b.Len(); h++ {
			sayBulk(t, b, h, m.size(h), m.depth(h), m.length(h))
			parts, e := b.Parts(h)
			if !slices.Equal(parts, m.spec(h).Parts) || e != api.OK {
				t.Errorf("Parts of %d: %v %d", h, parts, e)
			}
			kind, e := b.Kind(h)
			if kind != m.spec(h).Kind || e != api.OK {
				t.Errorf("Kind of %d: %d %d", h, kind, e)
			}
		}
	}
}

// TestP5_2PartsThatStandTwice count twice, and those that are no error not at all.
func TestP5_2PartsThatStandTwice(t *testing.T) {
	b := book.New()
	n := note(t, b, "abc")
	w := wrap(t, b, "w", n)
	sayBulk(t, b, join(t, b, w, w, n), 6, 3, 6+1+6+1+3)
	sayBulk(t, b, join(t, b, 0, n, 0, n, 0), 3, 2, 7)
	sayBulk(t, b, join(t, b, 0, 0), 1, 1, 0)
	sayBulk(t, b, join(t, b), 1, 1, 0)
	sayBulk(t, b, wrap(t, b, "w", 0), 1, 1, 1)
	sayBulk(t, b, give(t, b, api.Spec{Kind: 13, Text: "h", Parts: []int{w}}), 3, 3, 1)
	nothing := give(t, b, api.Spec{Kind: 9, Nil: true})
	sayBulk(t, b, nothing, 1, 1, 0)
	sayBulk(t, b, wrap(t, b, "w", nothing), 2, 2, 3)
}

func TestP5_3Text(t *testing.T) {
	b := book.New()
	for _, r := range rows() {
		give(t, b, r.spec)
		if r.isNil {
			give(t, b, r.nothing())
		}
	}
	for h := 1; h <= b.Len(); h++ {
		sayTold(t, b, h)
	}
	for seed := range int64(30) {
		b, m := someBook(t, 300+seed, 100)
		for h := 1; h <= b.Len(); h++ {
			sayTold(t, b, h)
			own, _ := m.value(h)
			text, p := told(own)
			if got, q, _ := b.Text(h); got != text || q != p {
				t.Errorf("%d tells %q %v, not %q %v", h, got, q, text, p)
			}
		}
	}
}

// sayTold holds that Text tells what the error that is handed out tells, each time.
func sayTold(t *testing.T, b *book.Book, h int) {
	t.Helper()
	text, p := told(errorOf(t, b, h))
	for range 2 {
		if got, q, e := b.Text(h); got != text || q != p || e != api.OK {
			t.Errorf("%d tells %q %v %d, not %q %v", h, got, q, e, text, p)
		}
	}
}

func TestP5_3Panics(t *testing.T) {
	b := book.New()
	atRuntime := api.Panic{Sort: api.RuntimePanic}
	own := api.Panic{Sort: api.OwnPanic, Word: "x"}
	nothing := give(t, b, api.Spec{Kind: 9, Nil: true})
	harsh := give(t, b, api.Spec{Kind: 7, Text: "x", Flag: true})
	slow := give(t, b, api.Spec{Kind: 24, Text: "x", Flag: true})
	for _, x := range []struct {
		s    api.Spec
		text string
		p    api.Panic
	}{
		{api.Spec{Kind: 9, Nil: true}, "", atRuntime},
		{api.Spec{Kind: 7, Nil: true}, "", atRuntime},
		{api.Spec{Kind: 17}, "", atRuntime},
		{api.Spec{Kind: 18}, "", atRuntime},
		{api.Spec{Kind: 18, Parts: []int{nothing}}, "", atRuntime},
		{api.Spec{Kind: 24, Nil: true}, "", atRuntime},
		{api.Spec{Kind: 10, Nil: true}, "quiet", api.Panic{}},
		{api.Spec{Kind: 7, Text: "x", Flag: true}, "", own},
		{api.Spec{Kind: 7, Flag: true}, "", api.Panic{Sort: api.OwnPanic}},
		{api.Spec{Kind: 7, Text: "x"}, "x", api.Panic{}},
		{api.Spec{Kind: 24, Text: "x", Flag: true}, "", own},
		{api.Spec{Kind: 14, Text: "w", Parts: []int{harsh}}, "", own},
		{api.Spec{Kind: 20, Parts: []int{slow}}, "", own},
		{api.Spec{Kind: 14, Text: "w", Parts: []int{nothing}}, "", atRuntime},
		{api.Spec{Kind: 16, Parts: []int{0, harsh, nothing}}, "", own},
		{api.Spec{Kind: 16, Parts: []int{nothing, harsh}}, "", atRuntime},
		{api.Spec{Kind: 13, Text: "h", Parts: []int{harsh}}, "h", api.Panic{}},
		{api.Spec{Kind: 26, Text: "o", Items: []string{"n"}, Parts: []int{nothing, harsh}}, "o", api.Panic{}},
		{api.Spec{Kind: 21, Text: "e", Flag: true}, "e", api.Panic{}},
	} {
		h := give(t, b, x.s)
		for range 3 {
			if text, p, e := b.Text(h); text != x.text || p != x.p || e != api.OK {
				t.Errorf("kind %d tells %q %v %d, not %q %v", x.s.Kind, text, p, e, x.text, x.p)
			}
		}
	}
}

// TestP5_3MadeOnce: a Slow is asked by nothing but Text, and by that once.
func TestP5_3MadeOnce(t *testing.T) {
	b := book.New()
	h := give(t, b, api.Spec{Kind: api.KindSlow, Text: "s"})
	all := join(t, b, h, h, wrap(t, b, "w", h))
	slow, ok := errorOf(t, b, h).(*kinds.Slow)
	if !ok || slow.Made() {
		t.Fatal("no Slow, or it is made by Make")
	}
	for _, c := range []*book.Book{b, b.Copy()} {
		for other := range c.Each() {
			c.Spec(other)
			c.Kind(other)
			c.Parts(other)
			c.Size(other)
			c.Depth(other)
			c.Length(other)
		}
		c.Len()
		c.Text(0)
	}
	if slow.Made() {
		t.Fatal("it is made before its text was asked for")
	}
	for range 2 {
		if text, p, e := b.Copy().Text(all); text != "s\ns\nw: s" || p != (api.Panic{}) || e != api.OK || !slow.Made() {
			t.Error(text, p, e, slow.Made())
		}
	}
}
