package faces_test

import (
	"math/rand"
	"slices"
	"strings"
	"testing"

	"errata/api"
	"errata/book"
)

// What the tests hold package faces against: the tables of chapters 4 and 6, written down as they stand.

// face is a row of chapter 6's table: a name, the numbers of the methods, and the language's own assertions.
type face struct {
	name    string
	methods []int
	two     func(any) bool
	one     func(any)
}

func faceOf[F any](name string, methods ...int) face {
	return face{
		name:    name,
		methods: methods,
		two: func(x any) bool {
			_, ok := x.(F)
			return ok
		},
		one: func(x any) { _ = x.(F) },
	}
}

// table has the face n at n - 1.
var table = []face{
	faceOf[error]("error", 1), faceOf[api.Grader]("Grader", 2), faceOf[api.Coder]("Coder", 3), faceOf[api.Weigher]("Weigher", 4),
	faceOf[api.Phaser]("Phaser", 5), faceOf[api.Timer]("Timer", 6), faceOf[api.Liner]("Liner", 7), faceOf[api.Detailer]("Detailer", 8),
	faceOf[api.One]("One", 9), faceOf[api.Many]("Many", 10), faceOf[api.Judge]("Judge", 11), faceOf[api.Lender]("Lender", 12),
	faceOf[api.Kinder]("Kinder", 13), faceOf[api.Sizer]("Sizer", 14), faceOf[api.TimedError]("TimedError", 1, 6),
	faceOf[api.CodedCause]("CodedCause", 3, 9), faceOf[api.Whole]("Whole", 1, 2, 4, 6), faceOf[api.Nobody]("Nobody", 15), faceOf[any]("any"),
}

const (
	most     = 19
	everyone = 1<<20 - 2 // the faces 1 to 19
)

// setOf is the set of the faces of these names, with blanks between.
func setOf(names string) uint32 {
	var set uint32
	for _, name := range strings.Fields(names) {
		n := slices.IndexFunc(table, func(f face) bool { return f.name == name })
		set |= 2 << n
	}
	return set
}

func in(set uint32, face uint8) bool { return set>>face&1 == 1 }

// methodsOf is the set of a face's methods, by the table.
func methodsOf(face uint8) uint32 {
	var set uint32
	for _, method := range table[face-1].methods {
		set |= 1 << method
	}
	return set
}

// methodsOfAll is the set of the methods of all of these faces.
func methodsOfAll(faces uint32) uint32 {
	var set uint32
	for face := uint8(1); face <= most; face++ {
		if in(faces, face) {
			set |= methodsOf(face)
		}
	}
	return set
}

// closureOf is the set of the faces whose methods are among those of these.
func closureOf(faces uint32) uint32 {
	all := methodsOfAll(faces)
	var set uint32
	for face := uint8(1); face <= most; face++ {
		if methodsOf(face)|all == all {
			set |= 1 << face
		}
	}
	return set
}

// panics tells whether the language's one-valued assertion of a value to a face does.
func panics(x any, face uint8) (bad bool) {
	defer func() { bad = recover() != nil }()
	table[face-1].one(x)
	return false
}

// row is a kind: a spec with all of its fields, whether it may be nil, and what chapter 4 says that it holds beside error and any.
type row struct {
	name  string
	spec  api.Spec
	isNil bool
	faces string
}

// rows are the twenty-six kinds; a Box is three.
func rows() []row {
	return []row{
		{"Code", api.Spec{Kind: 1, Number: 300}, false, "Grader Kinder"},
		{"Note", api.Spec{Kind: 2, Text: "n"}, false, "Kinder"},
		{"Level", api.Spec{Kind: 3, Re: 0.5}, false, "Weigher Kinder"},
		{"Sway", api.Spec{Kind: 4, Re: 1, Im: -2}, false, "Phaser"},
		{"Mark", api.Spec{Kind: 5, Text: "\x00\xffa "}, false, ""},
		{"Tags", api.Spec{Kind: 6, Items: []string{"b", "a", "b"}, Number: 7}, true, "Sizer"},
		{"Lazy", api.Spec{Kind: 7, Text: "z", Flag: true}, true, ""},
		{"Line", api.Spec{Kind: 8}, true, ""},
		{"Plain", api.Spec{Kind: 9, Text: "p"}, true, ""},
		{"Quiet", api.Spec{Kind: 10, Text: "q", Flag: true}, true, "Timer TimedError"},
		{"Coded", api.Spec{Kind: 11, Number: -3, Text: "c"}, false, "Grader Coder"},
		{"Bag", api.Spec{Kind: 12, Text: "b", Items: []string{"", "i"}}, false, "Detailer"},
		{"Hold", api.Spec{Kind: 13, Text: "h"}, false, ""},
		{"Wrap", api.Spec{Kind: 14, Text: "w"}, true, "One"},
		{"Over", api.Spec{Kind: 15, Text: "o"}, false, "One"},
		{"Join", api.Spec{Kind: 16}, true, "Many"},
		{"Timed", api.Spec{Kind: 17, Flag: true}, false, "Timer TimedError"},
		{"Placed", api.Spec{Kind: 18, Number: 4}, false, "Liner"},
		{"Twin", api.Spec{Kind: 19, Number: 5, Re: -1.5}, false, "Grader Weigher"},
		{"Veil", api.Spec{Kind: 20}, false, ""},
		{"Echo", api.Spec{Kind: 21, Text: "e", Flag: true}, true, "Judge"},
		{"Guise", api.Spec{Kind: 22, Text: "g", Number: 9}, true, "Lender"},
		{"Box of int8", api.Spec{Kind: 23, Number: 1, Small: -5}, false, ""},
		{"Box of float64", api.Spec{Kind: 23, Number: 2, Re: 2.5}, false, ""},
		{"Box of bytes", api.Spec{Kind: 23, Number: 3, Text: "bytes"}, true, ""},
		{"Slow", api.Spec{Kind: 24, Text: "s"}, true, ""},
		{"Full", api.Spec{Kind: 25, Number: 6, Text: "f"}, false, "Grader Coder One CodedCause"},
		{"Opaque", api.Spec{Kind: 26, Text: "o", Mask: 1<<32 - 1, Items: []string{"name"}}, true, "Many"},
	}
}

// heldBy is what an error of a kind holds; no error (0) holds none.
func heldBy(kind uint8) uint32 {
	for _, r := range rows() {
		if r.spec.Kind == kind {
			return setOf(r.faces + " error any")
		}
	}
	return 0
}

// nothing is the row's spec with Nil.
func (r row) nothing() api.Spec {
	s := api.Spec{Kind: r.spec.Kind, Nil: true}
	if s.Kind == api.KindBox {
		s.Number = r.spec.Number
	}
	return s
}

// give is the handle of a spec that may be.
func give(t *testing.T, b *book.Book, s api.Spec) int {
	t.Helper()
	h, e := b.Make(s)
	if e != api.OK {
		t.Fatalf("Make of kind %d: %d", s.Kind, e)
	}
	return h
}

func giveAbout(t *testing.T, b *book.Book, s api.Spec, parts ...int) int {
	t.Helper()
	s.Parts = parts
	return give(t, b, s)
}

// allKinds is a book with each kind: bare, a nil one where it may be, and about parts of every sort where it has them.
func allKinds(t *testing.T) *book.Book {
	t.Helper()
	b := book.New()
	plain := give(t, b, api.Spec{Kind: 9, Text: "p"})
	noPlain := give(t, b, api.Spec{Kind: 9, Nil: true})
	noWrap := give(t, b, api.Spec{Kind: 14, Nil: true})
	wrap := giveAbout(t, b, api.Spec{Kind: 14, Text: "w"}, plain)
	for _, r := range rows() {
		bare := give(t, b, r.spec)
		if r.isNil {
			give(t, b, r.nothing())
		}
		for _, kind := range []uint8{13, 14, 15, 17, 20, 16} {
			giveAbout(t, b, api.Spec{Kind: kind}, bare)
		}
		giveAbout(t, b, api.Spec{Kind: 26, Items: []string{"n"}}, bare, 0, bare)
	}
	for _, part := range []int{0, plain, noPlain} {
		giveAbout(t, b, api.Spec{Kind: 18, Number: 1}, part)
	}
	for _, part := range []int{0, wrap, noWrap} {
		giveAbout(t, b, api.Spec{Kind: 25, Text: "f"}, part)
	}
	return b
}

// someBook is a book with kinds that were drawn.
func someBook(t *testing.T, draw *rand.Rand, n int) *book.Book {
	t.Helper()
	b := book.New()
	for range n {
		r := rows()[draw.Intn(len(rows()))]
		if r.isNil && draw.Intn(3) == 0 {
			give(t, b, r.nothing())
			continue
		}
		give(t, b, r.spec)
	}
	return b
}

func kindOf(t *testing.T, b *book.Book, h int) uint8 {
	t.Helper()
	if h == 0 {
		return 0
	}
	kind, e := b.Kind(h)
	if e != api.OK {
		t.Fatalf("Kind(%d): %d", h, e)
	}
	return kind
}

// example is the chapter's book: 1 a Code, 2 a Quiet of Nil, 3 a Full without a part, 4 a Twin.
func example(t *testing.T) *book.Book {
	t.Helper()
	b := book.New()
	give(t, b, api.Spec{Kind: api.KindCode, Number: 7})
	give(t, b, api.Spec{Kind: api.KindQuiet, Nil: true})
	give(t, b, api.Spec{Kind: api.KindFull})
	give(t, b, api.Spec{Kind: api.KindTwin})
	return b
}

// badHandles name none in a book of so many errors.
func badHandles(n int) []int {
	return []int{-1, n + 1, n + 2, -n - 1, -1 << 63, 1<<63 - 1, 1 << 32, 1<<32 + 1}
}

// noFaces are numbers that are no face's.
func noFaces() []uint8 {
	all := []uint8{0}
	for n := 20; n < 256; n++ {
		all = append(all, uint8(n))
	}
	return all
}
