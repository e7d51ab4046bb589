package tree_test

import (
	"testing"

	"errata/api"
	"errata/book"
	"errata/tree"
)

// sayRefused holds that each call answers an error for a handle, whatever else is handed in, and zeros beside it.
func sayRefused(t *testing.T, b *book.Book, h int, want api.Errno) {
	t.Helper()
	n := b.Len()
	seq, e := tree.Walk(b, h)
	if seq == nil || e != want {
		t.Fatalf("Walk(%d): %t %d, not %d", h, seq == nil, e, want)
	}
	for path, g := range seq {
		t.Errorf("Walk(%d) tells %q %d", h, path, g)
	}
	for _, path := range []string{"", "\x00", "\xff\xff"} {
		if g, e := tree.At(b, h, path); g != 0 || e != want {
			t.Errorf("At(%d, %q): %d %d, not %d", h, path, g, e, want)
		}
		for _, g := range []int{0, h, -1} {
			sayNotReplaced(t, b, h, path, g, want)
		}
	}
	for _, depth := range []int{-1, 0, 1, 64} {
		sayNotCut(t, b, h, depth, want)
	}
	if l, e := tree.Leaves(b, h); l != nil || e != want {
		t.Errorf("Leaves(%d): %v %d, not %d", h, l, e, want)
	}
	if l, e := tree.Nodes(b, h); l != nil || e != want {
		t.Errorf("Nodes(%d): %v %d, not %d", h, l, e, want)
	}
	if l, e := tree.Levels(b, h); l != nil || e != want {
		t.Errorf("Levels(%d): %v %d, not %d", h, l, e, want)
	}
	if s, e := tree.Shape(b, h); s != "" || e != want {
		t.Errorf("Shape(%d): %q %d, not %d", h, s, e, want)
	}
	calls := 0
	if v, e := tree.Fold(b, h, func(int, api.Spec, []int) int { calls++; return 1 }); v != 0 || e != want || calls != 0 {
		t.Errorf("Fold(%d): %d %d, not %d, %d calls", h, v, e, want, calls)
	}
	if b.Len() != n {
		t.Errorf("%d errors are made for %d", b.Len()-n, h)
	}
}

func TestP11_1To5RefusedHandles(t *testing.T) {
	b := book.New()
	for n := range 4 {
		for _, h := range badHandles(n) {
			sayRefused(t, b, h, api.ErrHandle)
			if v, e := tree.Fold[int](b, h, nil); v != 0 || e != api.ErrNil {
				t.Errorf("Fold(%d) without a function: %d %d", h, v, e)
			}
		}
		give(t, b, api.Spec{Kind: api.KindWrap}, n)
	}
}

// TestP11_3RefusedPart: what is put in a place is looked at behind h, and ahead of the path.
func TestP11_3RefusedPart(t *testing.T) {
	b := example(t)
	for _, g := range badHandles(b.Len()) {
		for _, path := range []string{"", "\x00", "\x00\x00", "\x00\x01", "\x01", "\xff"} {
			sayNotReplaced(t, b, 4, path, g, api.ErrHandle)
			sayNotReplaced(t, b, 0, path, g, api.ErrHandle)
		}
	}
	for _, path := range []string{"\x01", "\x00\x03", "\x00\x01\x00", "\x00\x00\x00\x00"} {
		for g := range 5 {
			sayNotReplaced(t, b, 4, path, g, api.ErrPath)
		}
	}
}

// TestR1Nil: ErrNil is answered ahead of everything else; of Fold for a missing function, too.
func TestR1Nil(t *testing.T) {
	for _, h := range append(badHandles(0), 0, 1) {
		sayRefused(t, nil, h, api.ErrNil)
		if v, e := tree.Fold[string](nil, h, nil); v != "" || e != api.ErrNil {
			t.Errorf("Fold(%d) of nothing by nothing: %q %d", h, v, e)
		}
	}
	b := example(t)
	for h := range b.Len() + 1 {
		if v, e := tree.Fold[*int](b, h, nil); v != nil || e != api.ErrNil {
			t.Errorf("Fold(%d) without a function: %v %d", h, v, e)
		}
	}
}

// TestR1BareBook: of a book that New did not make nothing is promised but that no call panics.
func TestR1BareBook(t *testing.T) {
	var b book.Book
	for _, h := range []int{0, 1, -1} {
		seq, _ := tree.Walk(&b, h)
		for range seq {
			break
		}
		tree.At(&b, h, "\x00")
		tree.Leaves(&b, h)
		tree.Nodes(&b, h)
		tree.Levels(&b, h)
		tree.Shape(&b, h)
		tree.Replace(&b, h, "\x00", h)
		tree.Replace(&b, h, "", 0)
		tree.Cut(&b, h, 1)
		tree.Fold(&b, h, func(int, api.Spec, []int) int { return 1 })
	}
}
