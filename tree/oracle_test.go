package tree_test

import (
	"fmt"
	"math/rand"
	"slices"
	"testing"

	"errata/api"
	"errata/book"
	"errata/kinds"
)

// What the tests hold package tree against: the chapter's words, followed over the book's Specs alone.

// node is a node with the path that leads to it.
type node struct {
	path string
	h    int
}

func (n node) String() string { return fmt.Sprintf("%q %d", n.path, n.h) }

func give(t *testing.T, b *book.Book, s api.Spec, parts ...int) int {
	t.Helper()
	s.Parts = parts
	h, e := b.Make(s)
	if e != api.OK {
		t.Fatalf("Make of kind %d about %v: %d", s.Kind, parts, e)
	}
	return h
}

func specOf(t *testing.T, b *book.Book, h int) api.Spec {
	t.Helper()
	s, e := b.Spec(h)
	if e != api.OK {
		t.Fatalf("Spec(%d): %d", h, e)
	}
	return s
}

func errorOf(t *testing.T, b *book.Book, h int) error {
	t.Helper()
	err, e := b.Error(h)
	if e != api.OK {
		t.Fatalf("Error(%d): %d", h, e)
	}
	return err
}

// told is a spec as a text, by which specs with NaN are held against each other, too.
func told(s api.Spec) string { return fmt.Sprintf("%+v", s) }

// madeSince are the specs of a book behind so many.
func madeSince(t *testing.T, b *book.Book, n int) []string {
	t.Helper()
	var all []string
	for ; n < b.Len(); n++ {
		all = append(all, told(specOf(t, b, n+1)))
	}
	return all
}

// example is the book of the chapter's examples.
func example(t *testing.T) *book.Book {
	t.Helper()
	b := book.New()
	give(t, b, api.Spec{Kind: api.KindCode, Number: 7})
	give(t, b, api.Spec{Kind: api.KindWrap, Text: "w"}, 1)
	give(t, b, api.Spec{Kind: api.KindJoin}, 2, 0, 1)
	give(t, b, api.Spec{Kind: api.KindHold, Text: "h"}, 3)
	return b
}

// specsOf are specs of a kind: what it asks for and no more, some words, a nil one where it may be.
func specsOf(kind uint8) []api.Spec {
	var all []api.Spec
	for _, s := range []api.Spec{
		{}, {Text: "four"}, {Text: "t", Flag: true}, {Number: 7}, {Number: 7, Text: "t"}, {Number: 1, Small: 3}, {Number: 2, Re: 0.5}, {Number: 3, Text: "t"},
		{Re: 0.5}, {Re: 1, Im: -2}, {Flag: true}, {Items: []string{"i"}}, {Text: "t", Mask: 9, Items: []string{"i"}}, {Nil: true}, {Number: 3, Nil: true},
	} {
		s.Kind = kind
		if kinds.Check(s) == api.OK {
			all = append(all, s)
		}
	}
	return all
}

// everyKind is a book with each kind: without parts, nil, about no error, and about one of each kind.
func everyKind(t *testing.T) *book.Book {
	t.Helper()
	b := book.New()
	abouts := 0
	for kind := range api.KindOpaque {
		for _, s := range specsOf(kind + 1) {
			give(t, b, s)
		}
	}
	bare := b.Len()
	for kind := range api.KindOpaque {
		for h := range bare + 1 {
			s := specsOf(kind + 1)[0]
			s.Parts = []int{h}
			if _, e := b.Make(s); e == api.OK {
				abouts++
			}
		}
	}
	if bare < 40 || abouts < 6*bare {
		t.Fatal("everyKind has", bare, "without parts and", abouts, "about them")
	}
	return b
}

// drawnBook is a book of errors about errors about errors.
func drawnBook(t *testing.T, seed int64) *book.Book {
	t.Helper()
	draw := rand.New(rand.NewSource(seed))
	about := []uint8{api.KindHold, api.KindWrap, api.KindOver, api.KindJoin, api.KindTimed, api.KindVeil, api.KindJoin, api.KindOpaque, api.KindJoin, api.KindOpaque, api.KindFull, api.KindPlaced}
	b := book.New()
	for b.Len() < 60 {
		kind := uint8(1 + draw.Intn(26))
		specs := specsOf(kind)
		s := specs[draw.Intn(len(specs))]
		if draw.Intn(5) > 0 {
			kind = about[draw.Intn(len(about))]
			s = specsOf(kind)[0]
		}
		if _, most := kinds.Parts(kind); !s.Nil {
			for range min(most, draw.Intn(5)) {
				part := max(0, b.Len()-draw.Intn(6))
				s.Parts = append(s.Parts, part*min(1, draw.Intn(6))) // now and then no error
			}
		}
		b.Make(s) // what may not be made is left out
	}
	return b
}

// books are those that the promises are held against.
func books(t *testing.T) []*book.Book {
	t.Helper()
	all := []*book.Book{example(t), everyKind(t), book.New()}
	for seed := range int64(12) {
		all = append(all, drawnBook(t, seed))
	}
	return all
}

// greatest is an error of as many nodes as there may be, on three levels.
func greatest(t *testing.T, b *book.Book) int {
	t.Helper()
	code := give(t, b, api.Spec{Kind: api.KindCode})
	row := give(t, b, api.Spec{Kind: api.KindJoin}, slices.Repeat([]int{code}, 63)...)
	some := give(t, b, api.Spec{Kind: api.KindJoin}, slices.Repeat([]int{code}, 62)...)
	return give(t, b, api.Spec{Kind: api.KindJoin}, append(slices.Repeat([]int{row}, 63), some)...)
}

// deepest is an error as deep as there may be.
func deepest(t *testing.T, b *book.Book) int {
	t.Helper()
	h := give(t, b, api.Spec{Kind: api.KindCode})
	for range api.MaxDepth - 1 {
		h = give(t, b, api.Spec{Kind: api.KindOver}, h)
	}
	return h
}

// filled leaves a book room for so many errors.
func filled(t *testing.T, b *book.Book, room int) {
	t.Helper()
	for b.Len() < api.MaxBook-room {
		give(t, b, api.Spec{Kind: api.KindCode})
	}
}

// nodesOf are the nodes of an error in preorder, by the chapter's words.
func nodesOf(t *testing.T, b *book.Book, h int) []node {
	t.Helper()
	if h == 0 {
		return nil
	}
	all := []node{{"", h}}
	for i, part := range specOf(t, b, h).Parts {
		for _, n := range nodesOf(t, b, part) {
			all = append(all, node{string([]byte{byte(i)}) + n.path, n.h})
		}
	}
	return all
}

// places are all paths that lead somewhere, to parts that are no error too, with what they lead to.
func places(t *testing.T, b *book.Book, h int) map[string]int {
	t.Helper()
	all := map[string]int{"": h}
	for _, n := range nodesOf(t, b, h) {
		for i, part := range specOf(t, b, n.h).Parts {
			all[n.path+string([]byte{byte(i)})] = part
		}
	}
	return all
}

// replacedOf is what Replace comes to in an error with these places: the specs that are made, in order, and the handle.
func replacedOf(t *testing.T, b *book.Book, at map[string]int, path string, g int) ([]string, int) {
	t.Helper()
	var made []string
	for path != "" {
		last := path[len(path)-1]
		path = path[:len(path)-1]
		s := specOf(t, b, at[path])
		if s.Parts[last] == g {
			g = at[path]
			continue
		}
		s.Parts[last] = g
		made = append(made, told(s))
		g = b.Len() + len(made)
	}
	return made, g
}

// cutOf is what Cut comes to: the specs that are made, in order, and the handle.
func cutOf(t *testing.T, b *book.Book, h, depth int) ([]string, int) {
	t.Helper()
	nodes := nodesOf(t, b, h)
	slices.SortFunc(nodes, func(x, y node) int { return behind(x.path, y.path) })
	var made []string
	stands := map[string]int{} // what stands at a path behind the cut
	twice := map[string]int{}  // what was made of a handle on a level
	for _, n := range nodes {
		if len(n.path) >= depth {
			continue
		}
		key := fmt.Sprint(n.h, "on", len(n.path))
		s := specOf(t, b, n.h)
		for i := range s.Parts {
			s.Parts[i] = stands[n.path+string([]byte{byte(i)})]
		}
		switch {
		case told(s) == told(specOf(t, b, n.h)):
			stands[n.path] = n.h
		case twice[key] != 0:
			stands[n.path] = twice[key]
		default:
			made = append(made, told(s))
			stands[n.path] = b.Len() + len(made)
			twice[key] = stands[n.path]
		}
	}
	return made, stands[""]
}

// behind orders paths as they are made anew: by their parts, and each path behind those that begin with it.
func behind(x, y string) int {
	for i := range min(len(x), len(y)) {
		if x[i] != y[i] {
			return int(x[i]) - int(y[i])
		}
	}
	return len(y) - len(x)
}

// badHandles name none in a book of so many errors.
func badHandles(n int) []int {
	return []int{-1, n + 1, n + 2, -n - 1, -1 << 63, 1<<63 - 1, 1 << 32, 1<<32 + 1}
}
