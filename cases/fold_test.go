package cases_test

import (
	"fmt"
	"math/rand"
	"slices"
	"strings"
	"testing"

	"errata/api"
	"errata/book"
	"errata/cases"
)

func compiled(t *testing.T, l ...cases.Clause) *cases.Switch {
	t.Helper()
	s, e := cases.Compile(l)
	if e != api.OK {
		t.Fatalf("Compile(%v): %d", l, e)
	}
	return s
}

// teller tells its name, the node's handle, and what came of the parts.
func teller(name string) func(int, []string) string {
	return func(h int, parts []string) string { return fmt.Sprintf("%s%d%v", name, h, parts) }
}

// tellers are as many as a switch has clauses, a to z and on.
func tellers(s *cases.Switch) []func(int, []string) string {
	var do []func(int, []string) string
	for i := range s.Len() {
		do = append(do, teller(string(rune('a'+i))))
	}
	return do
}

// toldOf is what tellers come to, by the chapter's words.
func toldOf(t *testing.T, b *book.Book, h int, l []cases.Clause) string {
	t.Helper()
	k := uint8(0)
	var parts []string
	if h != 0 {
		s, _ := b.Spec(h)
		k = s.Kind
		for _, part := range s.Parts {
			if part != 0 {
				parts = append(parts, toldOf(t, b, part, l))
			}
		}
	}
	c := chosenFor(l, k)
	if c == nothing {
		return ""
	}
	return fmt.Sprintf("%c%d%v", rune('a'+c.Clause), h, parts)
}

func sayFold(t *testing.T, b *book.Book, h int, l []cases.Clause, want string) {
	t.Helper()
	s := compiled(t, l...)
	if told, e := cases.Fold(b, h, s, tellers(s)); told != want || e != api.OK {
		t.Errorf("Fold(%d, %v): %.200q %d, not %.200q", h, short(l), told, e, want)
	}
}

// tree is a Join of a Wrap about a Code, no error, that Code, and a nil Plain.
func tree(t *testing.T) *book.Book {
	t.Helper()
	b := book.New()
	code := give(t, b, api.Spec{Kind: api.KindCode})
	wrap := give(t, b, api.Spec{Kind: api.KindWrap}, code)
	plain := give(t, b, api.Spec{Kind: api.KindPlain, Nil: true})
	give(t, b, api.Spec{Kind: api.KindJoin}, wrap, 0, code, plain)
	return b
}

func TestP9_6Example(t *testing.T) {
	b := book.New()
	code := give(t, b, api.Spec{Kind: api.KindCode})
	join := give(t, b, api.Spec{Kind: api.KindJoin}, code, 0)
	wrap := give(t, b, api.Spec{Kind: api.KindWrap}, join)
	n, e := cases.Fold(b, wrap, compiled(t, other(1)), []func(int, []int) int{count})
	if n != 3 || e != api.OK {
		t.Error("the example:", n, e)
	}
}

func count(_ int, parts []int) int {
	n := 1
	for _, part := range parts {
		n += part
	}
	return n
}

func TestP9_6Told(t *testing.T) {
	b := tree(t)
	sayFold(t, b, 4, []cases.Clause{other(1)}, "a4[a2[a1[]] a1[] a3[]]")
	sayFold(t, b, 4, []cases.Clause{when(9, kind(1)), other(1), when(7, face(9), kind(9))}, "b4[c2[a1[]] a1[] c3[]]")
	sayFold(t, b, 2, []cases.Clause{when(9, kind(1)), other(1)}, "b2[a1[]]")
	sayFold(t, b, 3, []cases.Clause{when(9, noError), other(1)}, "b3[]") // a nil one is an error
}

// TestP9_6Nothing: where nothing is chosen the zero value comes, to a node's parts in their places, too.
func TestP9_6Nothing(t *testing.T) {
	b := tree(t)
	sayFold(t, b, 4, []cases.Clause{when(1, kind(16)), when(2, kind(9))}, "a4[  b3[]]")
	sayFold(t, b, 4, []cases.Clause{when(1, kind(1))}, "")
	sayFold(t, b, 4, nil, "")
	sayFold(t, b, 0, nil, "")
	sayFold(t, b, 0, []cases.Clause{when(1, face(19), face(1))}, "")
	sayFold(t, b, 0, []cases.Clause{when(1, face(19)), when(2, noError)}, "b0[]")
	sayFold(t, b, 0, []cases.Clause{when(1, face(19)), other(2)}, "b0[]")
	if told, e := cases.Fold(b, 4, compiled(t), []func(int, []*int) *int{}); told != nil || e != api.OK {
		t.Error("of nothing:", told, e)
	}
}

// TestP9_6Order: each node is come to once for each place where it stands, behind its parts, and parts in order; beneath one for which nothing is chosen, too.
func TestP9_6Order(t *testing.T) {
	b := tree(t)
	for _, c := range []struct {
		l    []cases.Clause
		want []int
	}{
		{[]cases.Clause{other(1)}, []int{1, 2, 1, 3, 4}},
		{[]cases.Clause{when(1, kind(1), kind(9))}, []int{1, 1, 3}},
		{[]cases.Clause{when(1, kind(16), noError)}, []int{4}},
	} {
		var came []int
		do := []func(int, []int) int{func(h int, parts []int) int {
			came = append(came, h)
			return len(came)
		}}
		cases.Fold(b, 4, compiled(t, c.l...), do)
		if !slices.Equal(came, c.want) {
			t.Errorf("Fold of %v comes to %v, not %v", c.l, came, c.want)
		}
	}
}

func TestP9_6Drawn(t *testing.T) {
	b := allKinds(t)
	draw := rand.New(rand.NewSource(96))
	for range 300 {
		parts := []int{draw.Intn(b.Len() + 1), draw.Intn(b.Len() + 1), draw.Intn(b.Len() + 1)}
		h := give(t, b, api.Spec{Kind: api.KindJoin}, parts[:1+draw.Intn(3)]...)
		for range 10 {
			l := drawn(draw)
			sayFold(t, b, h, l, toldOf(t, b, h, l))
		}
	}
	for h := range b.Len() + 1 {
		l := drawn(draw)
		sayFold(t, b, h, l, toldOf(t, b, h, l))
		if t.Failed() {
			return
		}
	}
}

// TestP9_6Greatest: the deepest and the greatest error that a book may have are gone through.
func TestP9_6Greatest(t *testing.T) {
	b := book.New()
	h := 0
	for range api.MaxDepth {
		h = give(t, b, api.Spec{Kind: api.KindOver}, h)
	}
	s := compiled(t, when(1, allTerms()[1:]...), other(2))
	do := []func(int, []int) int{count, count}
	if n, e := cases.Fold(b, h, s, do); n != api.MaxDepth || e != api.OK {
		t.Error("the deepest:", n, e)
	}
	row := slices.Repeat([]int{1}, api.MaxParts-1)
	row = slices.Repeat([]int{give(t, b, api.Spec{Kind: api.KindJoin}, row...)}, api.MaxParts-1)
	h = give(t, b, api.Spec{Kind: api.KindJoin}, append(row, 1)...)
	size, _ := b.Size(h)
	if n, e := cases.Fold(b, h, s, do); n != size || size < 4000 || e != api.OK {
		t.Error("the greatest:", n, size, e)
	}
}

// TestP9_6Lists: the list of each call is its own, with the room behind its end.
func TestP9_6Lists(t *testing.T) {
	b := tree(t)
	top := give(t, b, api.Spec{Kind: api.KindJoin}, 4, 4, 2)
	var lists [][]string
	do := []func(int, []string) string{func(h int, parts []string) string {
		told := fmt.Sprintf("%d%v", h, parts)
		lists = append(lists, append(parts, "more"))
		for _, l := range lists {
			l = l[:cap(l)]
			for i := range l {
				l[i] = "spoilt"
			}
		}
		return told
	}}
	told, e := cases.Fold(b, top, compiled(t, other(1)), do)
	if e != api.OK || strings.Contains(told, "spoilt") || told != "5[4[2[1[]] 1[] 3[]] 4[2[1[]] 1[] 3[]] 2[1[]]]" {
		t.Errorf("Fold: %q %d", told, e)
	}
}

// TestP9_6Changed: functions that change the list in which they stand change nothing of what is still to be called.
func TestP9_6Changed(t *testing.T) {
	b := tree(t)
	var do []func(int, []int) int
	do = append(do, func(h int, parts []int) int {
		n := count(h, parts)
		clear(do)
		return n
	}, count)
	if n, e := cases.Fold(b, 4, compiled(t, when(1, kind(1)), other(2)), do); n != 5 || e != api.OK {
		t.Error("Fold:", n, e)
	}
	full := []func(int, []int) int{count, count, count}
	cases.Fold(b, 4, compiled(t, other(1)), full[:1])
	if full[1] == nil || full[2] == nil || full[0] == nil {
		t.Error("the list that was handed in has changed")
	}
}

func TestP9_6Refused(t *testing.T) {
	b := tree(t)
	calls := 0
	touch := func(int, []int) int {
		calls++
		return 7
	}
	s := compiled(t, when(1, kind(1)), other(2))
	two := []func(int, []int) int{touch, touch}
	for _, c := range []struct {
		name string
		b    *book.Book
		h    int
		s    *cases.Switch
		do   []func(int, []int) int
		e    api.Errno
	}{
		{"no book", nil, 9, nil, nil, api.ErrNil},
		{"no book", nil, 1, s, two, api.ErrNil},
		{"no switch", b, 9, nil, nil, api.ErrNil},
		{"no switch", b, 1, nil, two, api.ErrNil},
		{"no switch, no functions", b, 1, nil, nil, api.ErrNil},
		{"no handle", b, 9, s, two[:1], api.ErrHandle},
		{"no handle", b, -1, s, two, api.ErrHandle},
		{"too few", b, 4, s, two[:1], api.ErrArg},
		{"too few", b, 0, s, nil, api.ErrArg},
		{"too many", b, 4, s, append(two, touch), api.ErrArg},
		{"too many, and a nil one", b, 4, s, append(two, nil), api.ErrArg},
		{"a nil one, that is not called", b, 2, compiled(t, when(1, kind(2)), other(2)), []func(int, []int) int{nil, touch}, api.ErrNil},
		{"a nil one, the last", b, 0, s, []func(int, []int) int{touch, nil}, api.ErrNil},
		{"functions for no clauses", b, 1, compiled(t), two, api.ErrArg},
	} {
		if n, e := cases.Fold(c.b, c.h, c.s, c.do); n != 0 || e != c.e || calls != 0 {
			t.Errorf("%s: %d %d, not %d; %d calls", c.name, n, e, c.e, calls)
		}
	}
	for _, h := range badHandles(b.Len()) {
		if n, e := cases.Fold(b, h, s, two); n != 0 || e != api.ErrHandle || calls != 0 {
			t.Errorf("Fold(%d): %d %d, %d calls", h, n, e, calls)
		}
	}
}
