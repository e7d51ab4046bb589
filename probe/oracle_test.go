package probe_test

import (
	"math"
	"slices"
	"testing"

	"errata/api"
	"errata/book"
	"errata/kinds"
)

// What the tests hold package probe against: the language's own assertions, calls and comparing, written down type by type, and the chapter's words of the machine.

// asserted is what the language's assertions to a type say, in both forms.
type asserted struct {
	two func(any) bool
	one func(any)
}

func to[T any]() asserted {
	return asserted{
		two: func(x any) bool {
			_, ok := x.(T)
			return ok
		},
		one: func(x any) { _ = x.(T) },
	}
}

// kindTypes has at n - 1 the types of the kind n.
var kindTypes = [][]asserted{
	{to[kinds.Code]()}, {to[kinds.Note]()}, {to[kinds.Level]()}, {to[kinds.Sway]()}, {to[kinds.Mark]()}, {to[kinds.Tags]()}, {to[kinds.Lazy]()},
	{to[kinds.Line]()}, {to[*kinds.Plain]()}, {to[*kinds.Quiet]()}, {to[kinds.Coded]()}, {to[kinds.Bag]()}, {to[kinds.Hold]()}, {to[*kinds.Wrap]()},
	{to[kinds.Over]()}, {to[*kinds.Join]()}, {to[kinds.Timed]()}, {to[kinds.Placed]()}, {to[kinds.Twin]()}, {to[kinds.Veil]()}, {to[*kinds.Echo]()},
	{to[*kinds.Guise]()}, {to[kinds.Box[int8]](), to[kinds.Box[float64]](), to[kinds.Box[[]uint8]]()}, {to[*kinds.Slow]()}, {to[kinds.Full]()}, {to[*kinds.Opaque]()},
}

// faceTypes has at n - 1 the type of the face n.
var faceTypes = []asserted{
	to[error](), to[api.Grader](), to[api.Coder](), to[api.Weigher](), to[api.Phaser](), to[api.Timer](), to[api.Liner](), to[api.Detailer](),
	to[api.One](), to[api.Many](), to[api.Judge](), to[api.Lender](), to[api.Kinder](), to[api.Sizer](), to[api.TimedError](), to[api.CodedCause](),
	to[api.Whole](), to[api.Nobody](), to[any](),
}

const (
	mostKinds = 26
	mostFaces = 19
)

var (
	noPanic   = api.Panic{}
	atRuntime = api.Panic{Sort: api.RuntimePanic}
	none      = api.Value{}
)

func own(word string) api.Panic { return api.Panic{Sort: api.OwnPanic, Word: word} }

func ownOf(h int) api.Panic { return api.Panic{Sort: api.OwnPanic, Handle: h} }

func holdsFace(x any, face uint8) bool { return faceTypes[face-1].two(x) }

func isOfKind(x any, kind uint8) bool {
	return slices.ContainsFunc(kindTypes[kind-1], func(a asserted) bool { return a.two(x) })
}

// mustKind panics just if the assertions to all of a kind's types do.
func mustKind(x any, kind uint8) {
	for _, a := range kindTypes[kind-1] {
		if caught(func() { a.one(x) }) == noPanic {
			return
		}
	}
	kindTypes[kind-1][0].one(x)
}

// caught is what f gives up with.
func caught(f func()) (p api.Panic) {
	defer func() {
		switch bad := recover().(type) {
		case nil:
		case kinds.Note:
			p = own(string(bad))
		default:
			p = atRuntime
		}
	}()
	f()
	return noPanic
}

func wholeNumber(n int) api.Value { return api.Value{Kind: api.ValInt, Int: int64(n)} }

func words(s string) api.Value { return api.Value{Kind: api.ValText, Text: s} }

func yes(ok bool) api.Value {
	if ok {
		return api.Value{Kind: api.ValBool, Int: 1}
	}
	return api.Value{Kind: api.ValBool}
}

func float(x float64) api.Value { return api.Value{Kind: api.ValFloat, Re: x} }

func list(items ...api.Value) api.Value { return api.Value{Kind: api.ValList, List: items} }

// said is what the language's own call of the method of a face comes to.
func said(x any, face uint8, target error, n int) (v api.Value, p api.Panic) {
	p = caught(func() {
		faceTypes[face-1].one(x)
		v = answer(x, face, target, n)
	})
	return v, p
}

func answer(x any, face uint8, target error, n int) api.Value {
	switch face {
	case 1:
		return words(x.(error).Error())
	case 2:
		return wholeNumber(int(x.(api.Grader).Grade()))
	case 3:
		return wholeNumber(int(x.(api.Coder).Code()))
	case 4:
		return float(x.(api.Weigher).Weight())
	case 5:
		z := x.(api.Phaser).Phase()
		return api.Value{Kind: api.ValComplex, Re: real(z), Im: imag(z)}
	case 6:
		return yes(x.(api.Timer).Timeout())
	case 7:
		return wholeNumber(int(x.(api.Liner).Line()))
	case 8:
		v := list()
		for _, s := range x.(api.Detailer).Details() {
			v.List = append(v.List, words(s))
		}
		return v
	case 9:
		return yes(x.(api.One).Unwrap() != nil)
	case 10:
		return wholeNumber(len(x.(api.Many).Unwrap()))
	case 11:
		return yes(x.(api.Judge).Is(target))
	case 12:
		return lentTo(x.(api.Lender), n)
	case 13:
		return wholeNumber(int(x.(api.Kinder).Kind()))
	case 14:
		return wholeNumber(x.(api.Sizer).Len())
	case 15:
		return list(answer(x, 1, nil, 0), answer(x, 6, nil, 0))
	case 16:
		return list(answer(x, 9, nil, 0), answer(x, 3, nil, 0))
	}
	return none
}

func lentTo(l api.Lender, n int) api.Value {
	var coded kinds.Coded
	var coder api.Coder
	var number int
	switch n {
	case 0:
		ok := l.As(&coded)
		return list(yes(ok), wholeNumber(int(coded.Code())))
	case 1:
		if ok := l.As(&coder); coder != nil {
			return list(yes(ok), wholeNumber(int(coder.Code())))
		}
		return list(yes(false), wholeNumber(0))
	}
	return list(yes(l.As(&number)), wholeNumber(0))
}

// sameFloat tells a nought from its other one, and takes each NaN for the other.
func sameFloat(x, y float64) bool {
	return math.Float64bits(x) == math.Float64bits(y) || math.IsNaN(x) && math.IsNaN(y)
}

func sameValue(v, w api.Value) bool {
	return v.Kind == w.Kind && v.Int == w.Int && v.Text == w.Text && sameFloat(v.Re, w.Re) && sameFloat(v.Im, w.Im) && slices.EqualFunc(v.List, w.List, sameValue)
}

func sameOut(o, p api.Out) bool {
	return o.At == p.At && o.Flag == p.Flag && o.Panic == p.Panic && sameValue(o.Value, p.Value)
}

// give is the handle of a spec that may be.
func give(t *testing.T, b *book.Book, s api.Spec) int {
	t.Helper()
	h, e := b.Make(s)
	if e != api.OK {
		t.Fatalf("Make of kind %d: %d", s.Kind, e)
	}
	return h
}

func giveAbout(t *testing.T, b *book.Book, s api.Spec, parts ...int) int {
	t.Helper()
	s.Parts = parts
	return give(t, b, s)
}

func errorOf(t *testing.T, b *book.Book, h int) error {
	t.Helper()
	err, e := b.Error(h)
	if e != api.OK {
		t.Fatalf("Error(%d): %d", h, e)
	}
	return err
}

// example is the chapter's book: 1 a Code 7, 2 a nil Plain, 3 a Wrap w about 1, 4 a Bag, 5 an Echo e (harsh).
func example(t *testing.T) *book.Book {
	t.Helper()
	b := book.New()
	give(t, b, api.Spec{Kind: api.KindCode, Number: 7})
	give(t, b, api.Spec{Kind: api.KindPlain, Nil: true})
	give(t, b, api.Spec{Kind: api.KindWrap, Text: "w", Parts: []int{1}})
	give(t, b, api.Spec{Kind: api.KindBag})
	give(t, b, api.Spec{Kind: api.KindEcho, Text: "e", Flag: true})
	return b
}

// leaves are specs without parts: each kind as it may be, those that panic and those of Nil too.
func leaves() []api.Spec {
	nan, minus0 := math.NaN(), math.Copysign(0, -1)
	return []api.Spec{
		{Kind: 1, Number: 300}, {Kind: 1, Number: -3}, {Kind: 2, Text: "note"}, {Kind: 2}, {Kind: 3, Re: nan}, {Kind: 3, Re: minus0}, {Kind: 4, Re: 1, Im: nan}, {Kind: 4, Re: minus0, Im: 2},
		{Kind: 5, Text: "\x00\xffa "}, {Kind: 6, Items: []string{"b", "a", "b"}, Number: 7}, {Kind: 6, Nil: true},
		{Kind: 7, Text: "z"}, {Kind: 7, Text: "harsh", Flag: true}, {Kind: 7, Nil: true}, {Kind: 8}, {Kind: 8, Nil: true},
		{Kind: 9, Text: "p"}, {Kind: 9, Nil: true}, {Kind: 10, Text: "q", Flag: true}, {Kind: 10, Text: "q"}, {Kind: 10, Nil: true},
		{Kind: 11, Number: -3, Text: "c"}, {Kind: 12}, {Kind: 12, Text: "b", Items: []string{"", "i", "\xff"}},
		{Kind: 13}, {Kind: 14, Text: "w"}, {Kind: 14, Nil: true}, {Kind: 15, Text: "o"}, {Kind: 16}, {Kind: 16, Nil: true}, {Kind: 17, Flag: true}, {Kind: 18, Number: 4},
		{Kind: 19, Number: 5, Re: -1.5}, {Kind: 20}, {Kind: 21, Text: "no"}, {Kind: 21, Text: "e", Flag: true}, {Kind: 21}, {Kind: 21, Nil: true},
		{Kind: 22, Text: "g", Number: 9}, {Kind: 22, Nil: true}, {Kind: 23, Number: 1, Small: -5}, {Kind: 23, Number: 2, Re: 2.5}, {Kind: 23, Number: 2, Re: nan},
		{Kind: 23, Number: 3, Text: "bytes"}, {Kind: 23, Number: 3, Nil: true}, {Kind: 24, Text: "s"}, {Kind: 24, Text: "slow", Flag: true}, {Kind: 24, Nil: true},
		{Kind: 25, Number: 6, Text: "f"}, {Kind: 26, Text: "o", Mask: 1<<32 - 1, Items: []string{"name"}}, {Kind: 26, Nil: true},
	}
}

// allKinds is a book with each leaf, and with each kind that has parts about each of them, about no error, and about many.
func allKinds(t *testing.T) *book.Book {
	t.Helper()
	b := book.New()
	for _, s := range leaves() {
		give(t, b, s)
	}
	n := b.Len()
	for h := range n + 1 {
		for _, kind := range []uint8{13, 14, 15, 16, 17, 20} {
			giveAbout(t, b, api.Spec{Kind: kind}, h)
		}
		giveAbout(t, b, api.Spec{Kind: 16}, h, 0, 1, h)
		giveAbout(t, b, api.Spec{Kind: 26, Items: []string{"n"}}, 0, h, h)
	}
	for h := range b.Len() + 1 {
		kind, _ := b.Kind(h)
		if h == 0 || kind == api.KindPlain {
			giveAbout(t, b, api.Spec{Kind: api.KindPlaced, Number: 1}, h)
		}
		if h == 0 || kind == api.KindWrap {
			giveAbout(t, b, api.Spec{Kind: api.KindFull, Number: 2, Text: "f"}, h)
		}
	}
	return b
}

// badHandles name none in a book of so many errors.
func badHandles(n int) []int {
	return []int{-1, n + 1, n + 2, -n - 1, -1 << 63, 1<<63 - 1, 1 << 32, 1<<32 + 1}
}

// noneOf are the numbers from 0 to 255 that are none from 1 to most.
func noneOf(most int) []uint8 {
	all := []uint8{0}
	for n := most + 1; n < 256; n++ {
		all = append(all, uint8(n))
	}
	return all
}
