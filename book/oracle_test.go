package book_test

import (
	"math/rand"
	"reflect"
	"slices"
	"strings"
	"testing"
	"unsafe"

	"errata/api"
	"errata/book"
	"errata/kinds"
)

// What the tests hold package book against: the chapter's words, written down as they stand.

// row is a kind: a spec of it with all of its fields, whether it may be nil, and how an assertion asks for its type.
type row struct {
	name  string
	spec  api.Spec
	isNil bool
	is    func(error) bool
}

func isA[T error](err error) bool {
	_, ok := err.(T)
	return ok
}

// rows are the twenty-six kinds; a Box is three.
func rows() []row {
	return []row{
		{"Code", api.Spec{Kind: 1, Number: 300}, false, isA[kinds.Code]},
		{"Note", api.Spec{Kind: 2, Text: "n"}, false, isA[kinds.Note]},
		{"Level", api.Spec{Kind: 3, Re: 0.5}, false, isA[kinds.Level]},
		{"Sway", api.Spec{Kind: 4, Re: 1, Im: -2}, false, isA[kinds.Sway]},
		{"Mark", api.Spec{Kind: 5, Text: "\x00\xffa "}, false, isA[kinds.Mark]},
		{"Tags", api.Spec{Kind: 6, Items: []string{"b", "a", "b"}, Number: 7}, true, isA[kinds.Tags]},
		{"Lazy", api.Spec{Kind: 7, Text: "z", Flag: true}, true, isA[kinds.Lazy]},
		{"Line", api.Spec{Kind: 8}, true, isA[kinds.Line]},
		{"Plain", api.Spec{Kind: 9, Text: "p"}, true, isA[*kinds.Plain]},
		{"Quiet", api.Spec{Kind: 10, Text: "q", Flag: true}, true, isA[*kinds.Quiet]},
		{"Coded", api.Spec{Kind: 11, Number: -3, Text: "c"}, false, isA[kinds.Coded]},
		{"Bag", api.Spec{Kind: 12, Text: "b", Items: []string{"", "i"}}, false, isA[kinds.Bag]},
		{"Hold", api.Spec{Kind: 13, Text: "h"}, false, isA[kinds.Hold]},
		{"Wrap", api.Spec{Kind: 14, Text: "w"}, true, isA[*kinds.Wrap]},
		{"Over", api.Spec{Kind: 15, Text: "o"}, false, isA[kinds.Over]},
		{"Join", api.Spec{Kind: 16}, true, isA[*kinds.Join]},
		{"Timed", api.Spec{Kind: 17, Flag: true}, false, isA[kinds.Timed]},
		{"Placed", api.Spec{Kind: 18, Number: 4}, false, isA[kinds.Placed]},
		{"Twin", api.Spec{Kind: 19, Number: 5, Re: -1.5}, false, isA[kinds.Twin]},
		{"Veil", api.Spec{Kind: 20}, false, isA[kinds.Veil]},
		{"Echo", api.Spec{Kind: 21, Text: "e", Flag: true}, true, isA[*kinds.Echo]},
		{"Guise", api.Spec{Kind: 22, Text: "g", Number: 9}, true, isA[*kinds.Guise]},
		{"Box[int8]", api.Spec{Kind: 23, Number: 1, Small: -5}, false, isA[kinds.Box[int8]]},
		{"Box[float64]", api.Spec{Kind: 23, Number: 2, Re: 2.5}, false, isA[kinds.Box[float64]]},
		{"Box[[]uint8]", api.Spec{Kind: 23, Number: 3, Text: "bytes"}, true, isA[kinds.Box[[]uint8]]},
		{"Slow", api.Spec{Kind: 24, Text: "s"}, true, isA[*kinds.Slow]},
		{"Full", api.Spec{Kind: 25, Number: 6, Text: "f"}, false, isA[kinds.Full]},
		{"Opaque", api.Spec{Kind: 26, Text: "o", Mask: 8, Items: []string{"name"}}, true, isA[*kinds.Opaque]},
	}
}

// nothing is the row's spec with Nil.
func (r row) nothing() api.Spec {
	s := api.Spec{Kind: r.spec.Kind, Nil: true}
	if s.Kind == api.KindBox {
		s.Number = r.spec.Number
	}
	return s
}

func isNothing(err error) bool {
	v := reflect.ValueOf(err)
	if v.Kind() == reflect.Struct {
		v = v.Field(0) // of Tags and Box
	}
	return v.IsNil()
}

// very tells whether two errors are the very same value: of one type, and the same memory.
func very(a, b error) bool {
	return *(*[2]uintptr)(unsafe.Pointer(&a)) == *(*[2]uintptr)(unsafe.Pointer(&b))
}

func sameSpec(a, b api.Spec) bool {
	items, parts := slices.Equal(a.Items, b.Items), slices.Equal(a.Parts, b.Parts)
	alike := a.Re == b.Re || a.Re != a.Re && b.Re != b.Re
	likewise := a.Im == b.Im || a.Im != a.Im && b.Im != b.Im
	a.Items, a.Parts, a.Re, a.Im = nil, nil, 0, 0
	b.Items, b.Parts, b.Re, b.Im = nil, nil, 0, 0
	return items && parts && alike && likewise && reflect.DeepEqual(a, b)
}

// give is the handle of a spec that may be.
func give(t *testing.T, b *book.Book, s api.Spec) int {
	t.Helper()
	n := b.Len()
	h, e := b.Make(s)
	if h != n+1 || e != api.OK || b.Len() != h {
		t.Fatalf("Make: %d %d behind %d, Len is %d: kind %d", h, e, n, b.Len(), s.Kind)
	}
	return h
}

func note(t *testing.T, b *book.Book, text string) int {
	t.Helper()
	return give(t, b, api.Spec{Kind: api.KindNote, Text: text})
}

func wrap(t *testing.T, b *book.Book, text string, part int) int {
	t.Helper()
	return give(t, b, api.Spec{Kind: api.KindWrap, Text: text, Parts: []int{part}})
}

func join(t *testing.T, b *book.Book, parts ...int) int {
	t.Helper()
	return give(t, b, api.Spec{Kind: api.KindJoin, Parts: parts})
}

func errorOf(t *testing.T, b *book.Book, h int) error {
	t.Helper()
	err, e := b.Error(h)
	if e != api.OK {
		t.Fatalf("Error(%d): %d", h, e)
	}
	return err
}

func specOf(t *testing.T, b *book.Book, h int) api.Spec {
	t.Helper()
	s, e := b.Spec(h)
	if e != api.OK {
		t.Fatalf("Spec(%d): %d", h, e)
	}
	return s
}

// sayRefused makes what may not be made, and holds that nothing came of it.
func sayRefused(t *testing.T, b *book.Book, what string, s api.Spec, want api.Errno) {
	t.Helper()
	n := b.Len()
	if h, e := b.Make(s); h != 0 || e != want {
		t.Errorf("Make of %s: %d %d, not 0 %d", what, h, e, want)
	}
	if b.Len() != n {
		t.Errorf("Make of %s: %d errors are now %d", what, n, b.Len())
	}
}

// model is a book by the chapter's words: what it has is reckoned anew from the specs, part by part.
type model struct {
	specs   []api.Spec
	deepest int
	came    map[api.Errno]int // how often each error, or none, was drawn
}

func (m *model) spec(h int) api.Spec { return m.specs[h-1] }

func (m *model) size(h int) int {
	if h == 0 {
		return 0
	}
	n := 1
	for _, part := range m.spec(h).Parts {
		n += m.size(part)
	}
	return n
}

func (m *model) depth(h int) int {
	if h == 0 {
		return 0
	}
	n := 0
	for _, part := range m.spec(h).Parts {
		n = max(n, m.depth(part))
	}
	return n + 1
}

func (m *model) length(h int) int {
	if h == 0 {
		return 0
	}
	var lengths []int
	for _, part := range m.spec(h).Parts {
		lengths = append(lengths, m.length(part))
	}
	return kinds.Long(m.spec(h), lengths)
}

func (m *model) words(h int) int {
	if h == 0 {
		return 0
	}
	n := len(m.spec(h).Text) + len(strings.Join(m.spec(h).Items, ""))
	for _, part := range m.spec(h).Parts {
		n += m.words(part)
	}
	return n
}

// value is an error of its own that is made of the same words.
func (m *model) value(h int) (error, api.Errno) {
	if h == 0 {
		return nil, api.OK
	}
	var parts []error
	for _, part := range m.spec(h).Parts {
		err, _ := m.value(part)
		parts = append(parts, err)
	}
	return kinds.Make(m.spec(h), parts)
}

// add keeps a spec if its error may be, and says what is wrong else.
func (m *model) add(s api.Spec) (int, api.Errno) {
	for _, part := range s.Parts {
		if part < 0 || part > len(m.specs) {
			return 0, api.ErrHandle
		}
	}
	m.specs = append(m.specs, s)
	h := len(m.specs)
	e := m.wrong(h)
	if e != api.OK {
		m.specs = m.specs[:h-1]
		return 0, e
	}
	if m.depth(h) > m.depth(m.deepest) {
		m.deepest = h
	}
	return h, api.OK
}

func (m *model) wrong(h int) api.Errno {
	if _, e := m.value(h); e != api.OK {
		return e
	}
	switch {
	case m.size(h) > 4096:
		return api.ErrSize
	case m.depth(h) > 64:
		return api.ErrDeep
	case m.length(h) > 65536, m.words(h) > 1048576:
		return api.ErrText
	case h > 65536:
		return api.ErrFull
	}
	return api.OK
}

// told is what an error tells, or gives up with.
func told(err error) (text string, p api.Panic) {
	if err == nil {
		return "", api.Panic{}
	}
	defer func() {
		switch bad := recover().(type) {
		case nil:
		case kinds.Note:
			p = api.Panic{Sort: api.OwnPanic, Word: string(bad)}
		default:
			p = api.Panic{Sort: api.RuntimePanic}
		}
	}()
	return err.Error(), api.Panic{}
}

// drawn is a spec for a book: mostly one that may be, about the deepest one of the book.
func drawn(draw *rand.Rand, m *model) api.Spec {
	all := rows()
	r := all[draw.Intn(len(all))]
	_, most := kinds.Parts(r.spec.Kind)
	for range 4 {
		if most > 0 {
			break
		}
		r = all[draw.Intn(len(all))]
		_, most = kinds.Parts(r.spec.Kind)
	}
	s := r.spec
	if r.isNil && draw.Intn(6) == 0 {
		return r.nothing()
	}
	if s.Text != "" && s.Kind != api.KindMark {
		s.Text = strings.Repeat("x", []int{0, 1, 10, 4096, 4097}[draw.Intn(41)/10])
	}
	for range min(most, draw.Intn(4)) {
		s.Parts = append(s.Parts, drawnPart(draw, m, s.Kind))
	}
	n := len(m.specs)
	if draw.Intn(60) == 0 {
		s.Parts = append(s.Parts, []int{0, n, n + 1, -1}[draw.Intn(4)])
	}
	return s
}

// drawnPart is a part that an error of a kind may have; now and then one of any kind, whatever it is for.
func drawnPart(draw *rand.Rand, m *model, kind uint8) int {
	n := len(m.specs)
	if n == 0 || draw.Intn(8) == 0 {
		return 0
	}
	wanted := map[uint8]uint8{api.KindPlaced: api.KindPlain, api.KindFull: api.KindWrap}[kind]
	if wanted == 0 && draw.Intn(3) > 0 {
		return m.deepest
	}
	h := 1 + draw.Intn(n)
	for range 50 {
		if wanted == 0 || m.spec(h).Kind == wanted {
			break
		}
		h = 1 + draw.Intn(n)
	}
	return h
}

// someBook is a book that was drawn, with what it should be.
func someBook(t *testing.T, seed int64, makes int) (*book.Book, *model) {
	t.Helper()
	draw := rand.New(rand.NewSource(seed))
	b, m := book.New(), &model{came: map[api.Errno]int{}}
	for range makes {
		s := drawn(draw, m)
		want, wrong := m.add(s)
		m.came[wrong]++
		if h, e := b.Make(s); h != want || e != wrong || b.Len() != len(m.specs) {
			t.Fatalf("Make(%+v): %d %d, not %d %d", s, h, e, want, wrong)
		}
	}
	return b, m
}

// everyKind is a book with each kind: without a part, a nil one where it may be, and about a part where it has one.
func everyKind(t *testing.T) *book.Book {
	t.Helper()
	b := book.New()
	plain := give(t, b, api.Spec{Kind: api.KindPlain, Text: "p"})
	cause := wrap(t, b, "w", plain)
	nothing := give(t, b, api.Spec{Kind: api.KindPlain, Nil: true})
	for _, r := range rows() {
		give(t, b, r.spec)
		if r.isNil {
			give(t, b, r.nothing())
		}
		about := r.spec
		_, most := kinds.Parts(about.Kind)
		switch {
		case about.Kind == api.KindPlaced:
			about.Parts = []int{nothing}
		case about.Kind == api.KindFull, most == 1:
			about.Parts = []int{cause}
		case most == api.MaxParts:
			about.Parts = []int{cause, 0, nothing, cause, plain}
		default:
			continue
		}
		give(t, b, about)
	}
	return b
}
