package tree_test

import (
	"maps"
	"slices"
	"strings"
	"testing"

	"errata/api"
	"errata/book"
	"errata/tree"
)

// walkOf are the nodes that Walk tells.
func walkOf(t *testing.T, b *book.Book, h int) []node {
	t.Helper()
	seq, e := tree.Walk(b, h)
	if e != api.OK {
		t.Fatalf("Walk(%d): %d", h, e)
	}
	var all []node
	for path, g := range seq {
		all = append(all, node{path, g})
	}
	return all
}

func sayWalk(t *testing.T, b *book.Book, h int, want ...node) {
	t.Helper()
	if got := walkOf(t, b, h); !slices.Equal(got, want) {
		t.Errorf("Walk(%d): %v, not %v", h, got, want)
	}
}

func sayAt(t *testing.T, b *book.Book, h int, path string, want int, wrong api.Errno) {
	t.Helper()
	if g, e := tree.At(b, h, path); g != want || e != wrong {
		t.Errorf("At(%d, %q): %d %d, not %d %d", h, path, g, e, want, wrong)
	}
}

func TestP11_1Examples(t *testing.T) {
	b := example(t)
	sayWalk(t, b, 4, node{"", 4}, node{"\x00", 3}, node{"\x00\x00", 2}, node{"\x00\x00\x00", 1}, node{"\x00\x02", 1})
	sayWalk(t, b, 1, node{"", 1})
	sayWalk(t, b, 0)
	sayAt(t, b, 4, "\x00\x02", 1, api.OK)
	sayAt(t, b, 4, "\x00\x01", 0, api.OK)
	for _, path := range []string{"\x00\x01\x00", "\x00\x03", "\x01"} {
		sayAt(t, b, 4, path, 0, api.ErrPath)
	}
	sayAt(t, b, 4, "", 4, api.OK)
}

// TestP11_1NoError: nothing leads on from no error.
func TestP11_1NoError(t *testing.T) {
	for _, b := range []*book.Book{book.New(), example(t)} {
		sayWalk(t, b, 0)
		sayAt(t, b, 0, "", 0, api.OK)
		for _, path := range []string{"\x00", "\x01", "\xff", "\x00\x00"} {
			sayAt(t, b, 0, path, 0, api.ErrPath)
		}
	}
}

// TestP11_1EveryPart: the parts of all kinds that have some are gone to, hidden ones too, whatever Unwrap tells.
func TestP11_1EveryPart(t *testing.T) {
	b := book.New()
	code := give(t, b, api.Spec{Kind: api.KindCode})
	plain := give(t, b, api.Spec{Kind: api.KindPlain, Nil: true})
	wrap := give(t, b, api.Spec{Kind: api.KindWrap}, code)
	for _, s := range []api.Spec{{Kind: api.KindHold}, {Kind: api.KindOver}, {Kind: api.KindTimed}, {Kind: api.KindVeil}, {Kind: api.KindJoin}, {Kind: api.KindOpaque, Items: []string{"n"}}} {
		h := give(t, b, s, code)
		sayWalk(t, b, h, node{"", h}, node{"\x00", code})
		h = give(t, b, s, 0)
		sayWalk(t, b, h, node{"", h})
		sayAt(t, b, h, "\x00", 0, api.OK)
		sayAt(t, b, h, "\x00\x00", 0, api.ErrPath)
		h = give(t, b, s)
		sayWalk(t, b, h, node{"", h})
		sayAt(t, b, h, "\x00", 0, api.ErrPath)
	}
	h := give(t, b, api.Spec{Kind: api.KindPlaced}, plain)
	sayWalk(t, b, h, node{"", h}, node{"\x00", plain})
	h = give(t, b, api.Spec{Kind: api.KindFull}, wrap)
	sayWalk(t, b, h, node{"", h}, node{"\x00", wrap}, node{"\x00\x00", code})
	for _, kind := range []uint8{api.KindWrap, api.KindJoin, api.KindOpaque} {
		h := give(t, b, api.Spec{Kind: kind, Nil: true})
		sayWalk(t, b, h, node{"", h})
		sayAt(t, b, h, "\x00", 0, api.ErrPath)
	}
}

// TestP11_1Numbers: a path's bytes are the parts' numbers, no errors counted, up to the last one that there may be.
func TestP11_1Numbers(t *testing.T) {
	b := book.New()
	var parts []int
	for i := range api.MaxParts {
		h := give(t, b, api.Spec{Kind: api.KindCode, Number: int16(i)})
		parts = append(parts, h, 0)
	}
	h := give(t, b, api.Spec{Kind: api.KindJoin}, parts[:api.MaxParts]...)
	want := []node{{"", h}}
	for i := 0; i < api.MaxParts; i += 2 {
		want = append(want, node{string([]byte{byte(i)}), parts[i]})
	}
	sayWalk(t, b, h, want...)
	for i := range 256 {
		path := string([]byte{byte(i)})
		if i < api.MaxParts {
			sayAt(t, b, h, path, parts[i], api.OK)
			sayAt(t, b, h, path+"\x00", 0, api.ErrPath)
		} else {
			sayAt(t, b, h, path, 0, api.ErrPath)
		}
	}
}

func TestP11_1Drawn(t *testing.T) {
	most := 0
	for _, b := range books(t) {
		for h := range b.Len() + 1 {
			want := nodesOf(t, b, h)
			sayWalk(t, b, h, want...)
			most = max(most, len(want))
		}
	}
	if most < 100 {
		t.Error("the greatest that was drawn has", most)
	}
}

// TestP11_1Places: all paths of bytes up to 3 lead where the chapter says, or nowhere.
func TestP11_1Places(t *testing.T) {
	for _, b := range books(t) {
		for h := range b.Len() + 1 {
			all := places(t, b, h)
			for path, g := range all {
				sayAt(t, b, h, path, g, api.OK)
				for _, last := range []byte{0, 1, 2, 3, 4, 63, 64, 128, 255} {
					if _, is := all[path+string([]byte{last})]; !is {
						sayAt(t, b, h, path+string([]byte{last}), 0, api.ErrPath)
						sayAt(t, b, h, path+string([]byte{last, 0}), 0, api.ErrPath)
					}
				}
			}
		}
	}
}

// TestP11_1Greatest: the deepest and the greatest error that a book may have are gone through.
func TestP11_1Greatest(t *testing.T) {
	b := book.New()
	h := deepest(t, b)
	down := strings.Repeat("\x00", api.MaxDepth-1)
	sayAt(t, b, h, down, 1, api.OK)
	sayAt(t, b, h, down+"\x00", 0, api.ErrPath)
	sayAt(t, b, h, strings.Repeat("\x00", 1<<20), 0, api.ErrPath)
	if got := walkOf(t, b, h); len(got) != api.MaxDepth || got[len(got)-1] != (node{down, 1}) {
		t.Errorf("the deepest: %v", got)
	}
	h = greatest(t, b)
	sayWalk(t, b, h, nodesOf(t, b, h)...)
	if got := walkOf(t, b, h); len(got) != api.MaxSize || got[len(got)-1].path != "\x3f\x3d" {
		t.Error("the greatest:", len(got))
	}
}

// leftBehind are the first of what Walk tells, behind which it is left.
func leftBehind(seq func(func(string, int) bool), most int) []node {
	var got []node
	for path, h := range seq {
		if got = append(got, node{path, h}); len(got) == most {
			break
		}
	}
	return got
}

// TestR8Walk: it may be left anywhere, gone over again, and while another round is on.
func TestR8Walk(t *testing.T) {
	b := example(t)
	h := give(t, b, api.Spec{Kind: api.KindOpaque, Items: []string{"n"}}, 4, 0, 3, 4)
	want := nodesOf(t, b, h)
	seq, _ := tree.Walk(b, h)
	for most := range len(want) + 1 {
		if got := leftBehind(seq, most+1); !slices.Equal(got, want[:min(most+1, len(want))]) {
			t.Errorf("left behind %d: %v", most+1, got)
		}
	}
	rounds := 0
	for path := range seq {
		if got := leftBehind(seq, rounds+1); !slices.Equal(got, want[:rounds+1]) || path != want[rounds].path {
			t.Errorf("round %d: at %q, within it %v", rounds, path, got)
		}
		rounds++
	}
	if rounds != len(want) {
		t.Error("Walk goes over", rounds)
	}
}

// TestR8WalkOfThen: what is made later changes nothing, and what named none then stays none.
func TestR8WalkOfThen(t *testing.T) {
	b := example(t)
	later, e := tree.Walk(b, 5)
	if e != api.ErrHandle {
		t.Fatal("Walk(5):", e)
	}
	seq, _ := tree.Walk(b, 4)
	want := nodesOf(t, b, 4)
	var got []node
	for path, h := range seq {
		got = append(got, node{path, h})
		give(t, b, api.Spec{Kind: api.KindWrap}, h)
	}
	if !slices.Equal(got, want) {
		t.Errorf("Walk while errors are made: %v", got)
	}
	if n := len(maps.Collect(later)); n != 0 {
		t.Error("of a handle that named none then:", n)
	}
}
