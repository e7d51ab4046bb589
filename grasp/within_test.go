package grasp_test

import (
	"slices"
	"testing"

	"errata/api"
	"errata/book"
	"errata/grasp"
	"errata/kinds"
)

func sayNodes(t *testing.T, b *book.Book, h int, want ...int) {
	t.Helper()
	if nodes, e := grasp.Nodes(b, h); !slices.Equal(nodes, want) || e != api.OK {
		t.Errorf("Nodes(%d): %v %d, not %v", h, nodes, e, want)
	}
}

// sayFound holds that the first T within h is the error of a handle, with a number; the number is -1 where there is none.
func sayFound[T any](t *testing.T, b *book.Book, h int, want, number int) {
	t.Helper()
	e := api.OK
	if number < 0 {
		number, e = 0, api.ErrNone
	}
	var none T
	value := told(none)
	if e == api.OK {
		value = told(errorOf(t, b, want))
	}
	if v, at, got := grasp.Find[T](b, h); told(v) != value || at != number || got != e {
		t.Errorf("Find(%d): %s %d %d, not %s %d %d", h, told(v), at, got, value, number, e)
	}
}

// numbered are the numbers that All tells, up to so many.
func numbered[T any](b *book.Book, h, most int) []int {
	var all []int
	for at := range grasp.All[T](b, h) {
		if all = append(all, at); len(all) == most {
			break
		}
	}
	return all
}

func sayNumbered[T any](t *testing.T, b *book.Book, h int, want ...int) {
	t.Helper()
	if got := numbered[T](b, h, -1); !slices.Equal(got, want) {
		t.Errorf("All(%d): %v, not %v", h, got, want)
	}
	if n, e := grasp.Count[T](b, h); n != len(want) || e != api.OK {
		t.Errorf("Count(%d): %d %d, not %d", h, n, e, len(want))
	}
}

func TestP10_1Examples(t *testing.T) {
	b := example(t)
	sayNodes(t, b, 4, 4, 2, 3, 1)
	sayNodes(t, b, 7, 7)
	sayNodes(t, b, 8, 8, 1)
	sayNodes(t, b, 0)
	sayNodes(t, b, 10, 10, 9)
	sayFound[kinds.Code](t, b, 4, 1, 3)
	sayFound[kinds.Code](t, b, 7, 0, -1)
	sayFound[error](t, b, 4, 4, 0)
	sayFound[*kinds.Plain](t, b, 6, 5, 1)
	sayFound[any](t, b, 0, 0, -1)
	sayFound[int](t, b, 1, 0, -1)
	sayFound[interface {
		Grade() int8
		Kind() uint8
	}](t, b, 4, 1, 3)
	sayNumbered[api.Kinder](t, b, 4, 1, 3)
	sayNumbered[api.One](t, b, 8, 0)
	if v, _, _ := grasp.Find[kinds.Code](b, 4); v != 5 {
		t.Error("the Code that was found:", v)
	}
	if v, _, e := grasp.Find[*kinds.Plain](b, 6); v != nil || e != api.OK {
		t.Error("the nil Plain that was found:", v, e)
	}
	if v, _, _ := grasp.Find[api.Coder](b, 8); v.Code() != 0 || told(v) != told(errorOf(t, b, 8)) {
		t.Error("the Coder that was found:", v)
	}
}

// TestP10_1Walked: just Wrap, Over, Join, Opaque and Full tell parts; a Full tells its Wrap's; no errors and what a nil one is about are left out.
func TestP10_1Walked(t *testing.T) {
	b := book.New()
	give(t, b, api.Spec{Kind: api.KindCode})
	give(t, b, api.Spec{Kind: api.KindPlain})
	for _, kind := range []uint8{api.KindWrap, api.KindOver} {
		h := give(t, b, api.Spec{Kind: kind}, 1)
		sayNodes(t, b, h, h, 1)
		h = give(t, b, api.Spec{Kind: kind}, 0)
		sayNodes(t, b, h, h)
		h = give(t, b, api.Spec{Kind: kind})
		sayNodes(t, b, h, h)
	}
	for _, s := range []api.Spec{{Kind: api.KindJoin}, {Kind: api.KindOpaque, Items: []string{"n"}}} {
		h := give(t, b, s, 0, 2, 1, 0, 2)
		sayNodes(t, b, h, h, 2, 1, 2)
		h = give(t, b, s, 0, 0)
		sayNodes(t, b, h, h)
		h = give(t, b, s)
		sayNodes(t, b, h, h)
	}
	for _, kind := range []uint8{api.KindHold, api.KindTimed, api.KindVeil} {
		h := give(t, b, api.Spec{Kind: kind}, 1)
		sayNodes(t, b, h, h)
	}
	h := give(t, b, api.Spec{Kind: api.KindPlaced}, 2)
	sayNodes(t, b, h, h)
	for _, kind := range []uint8{api.KindWrap, api.KindJoin, api.KindOpaque} {
		none := give(t, b, api.Spec{Kind: kind, Nil: true})
		h := give(t, b, api.Spec{Kind: api.KindOver}, none)
		sayNodes(t, b, h, h, none)
	}
}

func TestP10_1Full(t *testing.T) {
	b := book.New()
	code := give(t, b, api.Spec{Kind: api.KindCode})
	full := func(parts ...int) int { return give(t, b, api.Spec{Kind: api.KindFull}, parts...) }
	wrap := func(parts ...int) int { return give(t, b, api.Spec{Kind: api.KindWrap}, parts...) }
	h := full(wrap(code))
	sayNodes(t, b, h, h, code)
	sayNumbered[*kinds.Wrap](t, b, h) // its Wrap is not told
	for _, h := range []int{full(wrap(0)), full(wrap()), full(0), full(), full(give(t, b, api.Spec{Kind: api.KindWrap, Nil: true}))} {
		sayNodes(t, b, h, h)
	}
	inner := full(wrap(code))
	outer := full(wrap(inner))
	sayNodes(t, b, outer, outer, inner, code)
	within := wrap(code)
	h = full(wrap(within))
	sayNodes(t, b, h, h, within, code)
	join := give(t, b, api.Spec{Kind: api.KindJoin}, h, 0, outer)
	sayNodes(t, b, join, join, h, within, code, outer, inner, code)
}

// TestP10_1Order: itself, and behind it part by part, each with all that is within it; what stands twice has two numbers.
func TestP10_1Order(t *testing.T) {
	b := book.New()
	code := give(t, b, api.Spec{Kind: api.KindCode})
	note := give(t, b, api.Spec{Kind: api.KindNote})
	wrap := give(t, b, api.Spec{Kind: api.KindWrap}, code)
	join := give(t, b, api.Spec{Kind: api.KindJoin}, wrap, note, wrap)
	top := give(t, b, api.Spec{Kind: api.KindOpaque, Items: []string{"n"}}, note, join, 0, code, join)
	sayNodes(t, b, join, join, wrap, code, note, wrap, code)
	sayNodes(t, b, top, top, note, join, wrap, code, note, wrap, code, code, join, wrap, code, note, wrap, code)
	sayNumbered[kinds.Code](t, b, top, 4, 7, 8, 11, 14)
	sayNumbered[kinds.Note](t, b, top, 1, 5, 12)
	sayNumbered[api.One](t, b, top, 3, 6, 10, 13)
	sayNumbered[api.Many](t, b, top, 0, 2, 9)
	sayFound[api.One](t, b, top, wrap, 3)
	sayFound[*kinds.Join](t, b, top, join, 2)
	sayFound[kinds.Note](t, b, join, note, 3)
}

func TestP10_1Nodes(t *testing.T) {
	books := []*book.Book{everyKind(t)}
	for seed := range int64(60) {
		books = append(books, drawnBook(t, seed))
	}
	longest, fulls := 0, 0
	for _, b := range books {
		for h := range b.Len() + 1 {
			want := withinOf(t, b, h)
			sayNodes(t, b, h, want...)
			sayUnwrapped(t, b, h)
			longest = max(longest, len(want))
			if len(want) > 1 && isOne[kinds.Full](errorOf(t, b, h)) {
				fulls++
			}
		}
	}
	if longest < 20 || fulls < 20 {
		t.Error("the greatest that was drawn:", longest, "and Fulls with something within:", fulls)
	}
}

// sayUnwrapped: what is within is what the values' own Unwrap leads to.
func sayUnwrapped(t *testing.T, b *book.Book, h int) {
	t.Helper()
	var got, want []string
	for _, err := range grasp.All[error](b, h) {
		got = append(got, told(err))
	}
	for _, err := range unwrappedOf(errorOf(t, b, h)) {
		want = append(want, told(err))
	}
	if !slices.Equal(got, want) {
		t.Errorf("All(%d): %q, Unwrap tells %q", h, got, want)
	}
}

// TestP10_1Greatest: the deepest and the greatest error that a book may have are gone through.
func TestP10_1Greatest(t *testing.T) {
	b := book.New()
	h := give(t, b, api.Spec{Kind: api.KindCode})
	for range api.MaxDepth - 1 {
		h = give(t, b, api.Spec{Kind: api.KindOver}, h)
	}
	sayFound[kinds.Code](t, b, h, 1, api.MaxDepth-1)
	if n, e := grasp.Count[kinds.Over](b, h); n != api.MaxDepth-1 || e != api.OK {
		t.Error("the deepest:", n, e)
	}
	row := give(t, b, api.Spec{Kind: api.KindJoin}, slices.Repeat([]int{1}, 63)...)
	some := give(t, b, api.Spec{Kind: api.KindJoin}, slices.Repeat([]int{1}, 62)...)
	h = give(t, b, api.Spec{Kind: api.KindJoin}, append(slices.Repeat([]int{row}, 63), some)...)
	size, _ := b.Size(h)
	nodes, e := grasp.Nodes(b, h)
	if size != api.MaxSize || len(nodes) != size || e != api.OK {
		t.Error("the greatest:", len(nodes), size, e)
	}
	sayFound[*kinds.Join](t, b, h, h, 0)
	if last := numbered[kinds.Code](b, h, -1); len(last) != 63*63+62 || last[len(last)-1] != api.MaxSize-1 {
		t.Error("Codes within the greatest:", len(last))
	}
}

// TestR8All: it may be left anywhere, gone over again, and while another round is on.
func TestR8All(t *testing.T) {
	b := example(t)
	top := give(t, b, api.Spec{Kind: api.KindJoin}, 4, 8, 3)
	all := []int{0, 1, 2, 3, 4, 5, 6, 7, 8}
	for most := range len(all) + 2 {
		if most == 0 {
			continue
		}
		if got := numbered[error](b, top, most); !slices.Equal(got, all[:min(most, len(all))]) {
			t.Errorf("All, left behind %d: %v", most, got)
		}
	}
	seq := grasp.All[error](b, top)
	rounds := 0
	for outer := range seq {
		var inner []int
		for at := range seq {
			inner = append(inner, at)
			if at == outer {
				break
			}
		}
		if outer != rounds || !slices.Equal(inner, all[:outer+1]) {
			t.Errorf("round %d: at %d, within it %v", rounds, outer, inner)
		}
		rounds++
	}
	if rounds != len(all) {
		t.Error("All goes over", rounds)
	}
}

// TestR8AllOfThen: what there was when All was called is told, whatever is made behind it; where something was wrong then there is nothing.
func TestR8AllOfThen(t *testing.T) {
	b := book.New()
	later := grasp.All[error](b, 1)
	give(t, b, api.Spec{Kind: api.KindCode, Number: 1})
	wrap := give(t, b, api.Spec{Kind: api.KindWrap}, 1)
	seq := grasp.All[error](b, wrap)
	for range 3 {
		n := 0
		for at, err := range seq {
			if at != n || told(err) != told(errorOf(t, b, wrap-n)) {
				t.Errorf("All tells %d %s", at, told(err))
			}
			give(t, b, api.Spec{Kind: api.KindWrap}, wrap)
			n++
		}
		if n != 2 {
			t.Error("All goes over", n)
		}
	}
	for at, err := range later {
		t.Error("of a handle that named none then:", at, err)
	}
}
