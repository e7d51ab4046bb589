package tree_test

import (
	"slices"
	"strings"
	"testing"

	"errata/api"
	"errata/book"
	"errata/tree"
)

func sizeOf(t *testing.T, b *book.Book, h int) int {
	t.Helper()
	n, e := b.Size(h)
	if e != api.OK {
		t.Fatalf("Size(%d): %d", h, e)
	}
	return n
}

func depthOf(t *testing.T, b *book.Book, h int) int {
	t.Helper()
	n, e := b.Depth(h)
	if e != api.OK {
		t.Fatalf("Depth(%d): %d", h, e)
	}
	return n
}

func kindOf(t *testing.T, b *book.Book, h int) uint8 {
	t.Helper()
	kind, e := b.Kind(h)
	if e != api.OK {
		t.Fatalf("Kind(%d): %d", h, e)
	}
	return kind
}

// counted is the number of nodes, by Fold.
func counted(t *testing.T, b *book.Book, h int) int {
	t.Helper()
	n, e := tree.Fold(b, h, func(_ int, _ api.Spec, parts []int) int {
		n := 1
		for _, part := range parts {
			n += part
		}
		return n
	})
	if e != api.OK {
		t.Fatalf("Fold(%d): %d", h, e)
	}
	return n
}

// TestP11_6Walk: Walk, At, Levels and Fold go together with the book's Size and Depth.
func TestP11_6Walk(t *testing.T) {
	all := append(books(t), book.New())
	deepest(t, all[len(all)-1])
	greatest(t, all[len(all)-1])
	for _, b := range all {
		for h := range b.Len() + 1 {
			nodes := walkOf(t, b, h)
			longest := -1
			for _, n := range nodes {
				sayAt(t, b, h, n.path, n.h, api.OK)
				longest = max(longest, len(n.path))
			}
			size, depth := sizeOf(t, b, h), depthOf(t, b, h)
			sum := 0
			levels, _ := tree.Levels(b, h)
			for _, n := range levels {
				sum += n
			}
			if len(nodes) != size || longest != depth-1 || len(levels) != depth || sum != size || counted(t, b, h) != size {
				t.Errorf("%d: size %d, depth %d; %d nodes, the longest path %d, levels %v, counted %d", h, size, depth, len(nodes), longest, levels, counted(t, b, h))
			}
		}
	}
}

// TestP11_6ReplaceItself: a node, or no error, by itself makes nothing.
func TestP11_6ReplaceItself(t *testing.T) {
	for _, b := range books(t) {
		for h := range b.Len() + 1 {
			for path, g := range places(t, b, h) {
				want := h
				if path == "" {
					want = g
				}
				sayReplaced(t, b, h, path, g, nil, want)
			}
		}
	}
}

// TestP11_6ReplaceAt: behind a Replace g stands at the path, and elsewhere is what was there.
func TestP11_6ReplaceAt(t *testing.T) {
	done := 0
	for _, b := range books(t) {
		if b.Len() > 100 {
			continue
		}
		for h := range b.Len() + 1 {
			before := places(t, b, h)
			for path := range before {
				if sizeOf(t, b, h) > 60 && len(path)%5 != 0 {
					continue
				}
				for _, g := range []int{0, min(1, b.Len()), h} {
					own := b.Copy()
					if top, e := tree.Replace(own, h, path, g); e == api.OK {
						sayAt(t, own, top, path, g, api.OK)
						sayElsewhere(t, own, top, path, before)
						done++
					}
				}
			}
		}
	}
	if done < 1000 {
		t.Error("replaced were", done)
	}
}

func sayElsewhere(t *testing.T, b *book.Book, top int, path string, before map[string]int) {
	t.Helper()
	for other, g := range before {
		if !strings.HasPrefix(other, path) && !strings.HasPrefix(path, other) {
			sayAt(t, b, top, other, g, api.OK)
		}
	}
}

// TestP11_6ReplaceBack: what is put back where something else was put comes to the same shape.
func TestP11_6ReplaceBack(t *testing.T) {
	b := drawnBook(t, 3)
	for h := range b.Len() + 1 {
		shape, _ := tree.Shape(b, h)
		for path, g := range places(t, b, h) {
			own := b.Copy()
			top, e := tree.Replace(own, h, path, 0)
			if path == "" || e != api.OK {
				continue
			}
			back, e := tree.Replace(own, top, path, g)
			if got, _ := tree.Shape(own, back); got != shape || e != api.OK {
				t.Errorf("%d at %q: %s %d, not %s", h, path, got, e, shape)
			}
		}
	}
}

// TestP11_6Cut: what is cut is no deeper than it should be, and above it stands what stood there.
func TestP11_6Cut(t *testing.T) {
	for _, b := range books(t) {
		for h := range b.Len() + 1 {
			deep := depthOf(t, b, h)
			for depth := 1; depth <= deep+2; depth++ {
				own := b.Copy()
				top, e := tree.Cut(own, h, depth)
				if e != api.OK || depth >= deep && (top != h || own.Len() != b.Len()) {
					t.Errorf("Cut(%d, %d): %d %d", h, depth, top, e)
				}
				if depthOf(t, own, top) != min(deep, depth) {
					t.Errorf("Cut(%d, %d) is of the depth %d", h, depth, depthOf(t, own, top))
				}
				sayKinds(t, own, walkOf(t, own, top), walkOf(t, b, h), depth)
				sayCut(t, own, top, depth, nil, top)
			}
		}
	}
}

// sayKinds holds that nodes are those with paths of less bytes than depth, with the same kinds.
func sayKinds(t *testing.T, b *book.Book, nodes, before []node, depth int) {
	t.Helper()
	type kept struct {
		path string
		kind uint8
	}
	var got, want []kept
	for _, n := range nodes {
		got = append(got, kept{n.path, kindOf(t, b, n.h)})
	}
	for _, n := range before {
		if len(n.path) < depth {
			want = append(want, kept{n.path, kindOf(t, b, n.h)})
		}
	}
	if !slices.Equal(got, want) {
		t.Errorf("cut to %d: %v, not %v", depth, got, want)
	}
}
