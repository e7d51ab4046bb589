package tree_test

import (
	"fmt"
	"slices"
	"testing"

	"errata/api"
	"errata/book"
	"errata/tree"
)

// call is what f was called with.
type call struct {
	h     int
	spec  string
	parts []string
}

// named is what tellers answer of a handle.
func named(h int) string { return fmt.Sprintf("<%d>", h) }

// callsOf are the calls of Fold by the chapter's words, where f answers what named does.
func callsOf(t *testing.T, b *book.Book, h int) []call {
	t.Helper()
	var all []int
	for _, n := range nodesOf(t, b, h) {
		all = append(all, n.h)
	}
	slices.Sort(all)
	var calls []call
	for _, g := range slices.Compact(all) {
		c := call{h: g, spec: told(specOf(t, b, g))}
		for _, part := range specOf(t, b, g).Parts {
			if part == 0 {
				c.parts = append(c.parts, "")
			} else {
				c.parts = append(c.parts, named(part))
			}
		}
		calls = append(calls, c)
	}
	return calls
}

func sayFolded(t *testing.T, b *book.Book, h int) {
	t.Helper()
	var calls []call
	got, e := tree.Fold(b, h, func(h int, s api.Spec, parts []string) string {
		calls = append(calls, call{h, told(s), slices.Clone(parts)})
		return named(h)
	})
	want := named(h)
	if h == 0 {
		want = ""
	}
	if got != want || e != api.OK {
		t.Errorf("Fold(%d): %q %d, not %q", h, got, e, want)
	}
	same := func(x, y call) bool { return x.h == y.h && x.spec == y.spec && slices.Equal(x.parts, y.parts) }
	if wanted := callsOf(t, b, h); !slices.EqualFunc(calls, wanted, same) {
		t.Errorf("Fold(%d) calls %v, not %v", h, calls, wanted)
	}
}

func TestP11_5Calls(t *testing.T) {
	for _, b := range books(t) {
		for h := range b.Len() + 1 {
			sayFolded(t, b, h)
		}
	}
}

func TestP11_5Greatest(t *testing.T) {
	b := book.New()
	sayFolded(t, b, deepest(t, b))
	sayFolded(t, b, greatest(t, b))
}

// TestP11_5Answers: what f answered of the parts comes to it in order, for a part that stands twice twice; the zero of no error, whatever the type.
func TestP11_5Answers(t *testing.T) {
	b := example(t)
	type pair struct{ h, n int }
	last, e := tree.Fold(b, 4, func(h int, s api.Spec, parts []pair) pair {
		n := 1
		for i, part := range parts {
			if (part == pair{}) != (s.Parts[i] == 0) || part.h != s.Parts[i] {
				t.Errorf("of %d the part %d is %v", h, i, part)
			}
			n += part.n
		}
		return pair{h, n}
	})
	if last != (pair{4, 5}) || e != api.OK {
		t.Error("what was answered of 4:", last, e)
	}
	errs, e := tree.Fold(b, 3, func(h int, s api.Spec, parts []error) error {
		if h == 3 && (len(parts) != 3 || parts[0] != api.Errno(2) || parts[1] != nil || parts[2] != api.Errno(1)) {
			t.Error("of 3 the parts are", parts)
		}
		return api.Errno(h)
	})
	if errs != api.Errno(3) || e != api.OK {
		t.Error("what was answered of 3:", errs, e)
	}
	maps, e := tree.Fold(b, 2, func(int, api.Spec, []map[int]bool) map[int]bool { return nil })
	if maps != nil || e != api.OK {
		t.Error("what was answered of 2:", maps, e)
	}
}

// TestP11_5NoError: the zero of no error; the function is not called.
func TestP11_5NoError(t *testing.T) {
	calls := 0
	n, e := tree.Fold(example(t), 0, func(int, api.Spec, []int) int { calls++; return 7 })
	p, f := tree.Fold(example(t), 0, func(int, api.Spec, []*int) *int { calls++; return new(int) })
	if n != 0 || p != nil || e != api.OK || f != api.OK || calls != 0 {
		t.Error("of no error:", n, p, e, f, calls)
	}
}

// TestP11_5Panics: where the function gives up that goes through, and it is called no more.
func TestP11_5Panics(t *testing.T) {
	b := example(t)
	for stop := 1; stop <= 4; stop++ {
		calls, caught := 0, any(nil)
		func() {
			defer func() { caught = recover() }()
			tree.Fold(b, 4, func(h int, _ api.Spec, _ []int) int {
				if calls++; h == stop {
					panic(h)
				}
				return h
			})
		}()
		if caught != any(stop) || calls != stop {
			t.Errorf("behind a panic at %d: %v, %d calls", stop, caught, calls)
		}
	}
	if n, e := tree.Fold(b, 4, func(h int, _ api.Spec, _ []int) int { return h }); n != 4 || e != api.OK || b.Len() != 4 {
		t.Error("behind the panics:", n, e, b.Len())
	}
}

// TestP11_5NewMemory: whatever the function does to what it was handed, and with the book, changes no other call.
func TestP11_5NewMemory(t *testing.T) {
	b := example(t)
	h := give(t, b, api.Spec{Kind: api.KindOpaque, Items: []string{"n"}}, 2, 4, 0, 1, 2)
	want := callsOf(t, b, h)
	var calls []call
	tree.Fold(b, h, func(h int, s api.Spec, parts []string) string {
		calls = append(calls, call{h, told(s), slices.Clone(parts)})
		clear(parts[:cap(parts)])
		clear(s.Parts[:cap(s.Parts)])
		clear(s.Items[:cap(s.Items)])
		give(t, b, api.Spec{Kind: api.KindWrap}, h)
		return named(h)
	})
	if fmt.Sprint(calls) != fmt.Sprint(want) {
		t.Errorf("Fold calls %v, not %v", calls, want)
	}
	if got := callsOf(t, b, h); fmt.Sprint(got) != fmt.Sprint(want) {
		t.Errorf("the book is now %v", got)
	}
}

// TestP11_5Within: a fold within a fold, of another book's errors too.
func TestP11_5Within(t *testing.T) {
	b, c := example(t), drawnBook(t, 11)
	size := func(b *book.Book, h int) int {
		n, _ := tree.Fold(b, h, func(_ int, _ api.Spec, parts []int) int {
			n := 1
			for _, part := range parts {
				n += part
			}
			return n
		})
		return n
	}
	sum, e := tree.Fold(b, 4, func(h int, _ api.Spec, parts []int) int {
		n := size(b, h) + size(c, 60-h)
		for _, part := range parts {
			n += part
		}
		return n
	})
	want := 0
	for _, n := range nodesOf(t, b, 4) {
		want += len(nodesOf(t, b, n.h)) + len(nodesOf(t, c, 60-n.h))
	}
	if sum != want || e != api.OK {
		t.Error("folds within a fold:", sum, e, "not", want)
	}
}
