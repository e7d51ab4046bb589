package probe_test

import (
	"math"
	"slices"
	"strings"
	"testing"

	"errata/api"
	"errata/book"
	"errata/probe"
)

func sayHolds(t *testing.T, b *book.Book, h int, face uint8, want bool, wrong api.Errno) {
	t.Helper()
	if ok, e := probe.Holds(b, h, face); ok != want || e != wrong {
		t.Errorf("Holds(%d, %d): %t %d, not %t %d", h, face, ok, e, want, wrong)
	}
}

func sayIs(t *testing.T, b *book.Book, h int, kind uint8, want bool, wrong api.Errno) {
	t.Helper()
	if ok, e := probe.Is(b, h, kind); ok != want || e != wrong {
		t.Errorf("Is(%d, %d): %t %d, not %t %d", h, kind, ok, e, want, wrong)
	}
}

func sayCall(t *testing.T, b *book.Book, h int, face uint8, target, n int, want api.Value, bad api.Panic, wrong api.Errno) {
	t.Helper()
	if v, p, e := probe.Call(b, h, face, target, n); !sameValue(v, want) || p != bad || e != wrong {
		t.Errorf("Call(%d, %d, %d, %d): %.200v %v %d, not %.200v %v %d", h, face, target, n, v, p, e, want, bad, wrong)
	}
}

// TestP8_3Kinds: an error has the type of its Spec's Kind, and of no other; what it holds is what the language says.
func TestP8_3Kinds(t *testing.T) {
	b := allKinds(t)
	for h := range b.Len() + 1 {
		of := uint8(0)
		if h > 0 {
			of, _ = b.Kind(h)
		}
		for kind := uint8(1); kind <= mostKinds; kind++ {
			sayIs(t, b, h, kind, kind == of, api.OK)
		}
		for face := uint8(1); face <= mostFaces; face++ {
			sayHolds(t, b, h, face, holdsFace(errorOf(t, b, h), face), api.OK)
		}
	}
}

// callBook is a book of specs, each under the next handle, behind 1 a Note ab, 2 a nil Plain.
func callBook(t *testing.T, specs ...api.Spec) *book.Book {
	t.Helper()
	b := book.New()
	give(t, b, api.Spec{Kind: api.KindNote, Text: "ab"})
	give(t, b, api.Spec{Kind: api.KindPlain, Nil: true})
	for _, s := range specs {
		give(t, b, s)
	}
	return b
}

// TestP8_3Calls: what the chapter's table says of each face.
func TestP8_3Calls(t *testing.T) {
	nan, minus0 := math.NaN(), math.Copysign(0, -1)
	complexOf := func(re, im float64) api.Value { return api.Value{Kind: api.ValComplex, Re: re, Im: im} }
	for _, x := range []struct {
		s    api.Spec
		face uint8
		want api.Value
		bad  api.Panic
	}{
		{api.Spec{Kind: 1, Number: 300}, api.FaceError, words("code 300"), noPanic},
		{api.Spec{Kind: 7, Text: "z"}, api.FaceError, words("z"), noPanic},
		{api.Spec{Kind: 7, Text: "z", Flag: true}, api.FaceError, none, own("z")},
		{api.Spec{Kind: 24, Flag: true}, api.FaceError, none, own("")},
		{api.Spec{Kind: 7, Nil: true}, api.FaceError, none, atRuntime},
		{api.Spec{Kind: 10, Nil: true}, api.FaceError, words("quiet"), noPanic},
		{api.Spec{Kind: 14, Text: "w", Parts: []int{1}}, api.FaceError, words("w: ab"), noPanic},
		{api.Spec{Kind: 14, Text: "w", Parts: []int{2}}, api.FaceError, none, atRuntime},
		{api.Spec{Kind: 17}, api.FaceError, none, atRuntime},
		{api.Spec{Kind: 1, Number: 300}, api.FaceGrader, wholeNumber(44), noPanic},
		{api.Spec{Kind: 1, Number: 200}, api.FaceGrader, wholeNumber(-56), noPanic},
		{api.Spec{Kind: 11, Number: -32768}, api.FaceCoder, wholeNumber(-32768), noPanic},
		{api.Spec{Kind: 1, Number: 300}, api.FaceCoder, none, atRuntime},
		{api.Spec{Kind: 3, Re: minus0}, api.FaceWeigher, float(minus0), noPanic},
		{api.Spec{Kind: 19, Re: nan}, api.FaceWeigher, float(nan), noPanic},
		{api.Spec{Kind: 4, Re: minus0, Im: nan}, api.FacePhaser, complexOf(minus0, nan), noPanic},
		{api.Spec{Kind: 4, Re: 1, Im: -2}, api.FacePhaser, complexOf(1, -2), noPanic},
		{api.Spec{Kind: 10, Flag: true}, api.FaceTimer, yes(true), noPanic},
		{api.Spec{Kind: 10, Nil: true}, api.FaceTimer, yes(false), noPanic},
		{api.Spec{Kind: 17, Flag: true}, api.FaceTimer, yes(true), noPanic},
		{api.Spec{Kind: 18, Number: -4}, api.FaceLiner, wholeNumber(-4), noPanic},
		{api.Spec{Kind: 12, Items: []string{"", "\xff"}}, api.FaceDetailer, list(words(""), words("\xff")), noPanic},
		{api.Spec{Kind: 12}, api.FaceDetailer, list(), noPanic},
		{api.Spec{Kind: 14}, api.FaceOne, yes(false), noPanic},
		{api.Spec{Kind: 14, Parts: []int{0}}, api.FaceOne, yes(false), noPanic},
		{api.Spec{Kind: 15, Parts: []int{2}}, api.FaceOne, yes(true), noPanic}, // a typed nil is an error
		{api.Spec{Kind: 14, Nil: true}, api.FaceOne, none, atRuntime},
		{api.Spec{Kind: 16, Parts: []int{1, 0, 2, 0}}, api.FaceMany, wholeNumber(4), noPanic},
		{api.Spec{Kind: 16}, api.FaceMany, wholeNumber(0), noPanic},
		{api.Spec{Kind: 26, Items: []string{"n"}, Parts: []int{0}}, api.FaceMany, wholeNumber(1), noPanic},
		{api.Spec{Kind: 26, Nil: true}, api.FaceMany, none, atRuntime},
		{api.Spec{Kind: 14, Parts: []int{1}}, api.FaceMany, none, atRuntime},
		{api.Spec{Kind: 16, Parts: []int{1}}, api.FaceOne, none, atRuntime},
		{api.Spec{Kind: 2}, api.FaceKinder, wholeNumber(2), noPanic},
		{api.Spec{Kind: 4}, api.FaceKinder, none, atRuntime},
		{api.Spec{Kind: 6, Items: []string{"a", "b", "a"}}, api.FaceSizer, wholeNumber(2), noPanic},
		{api.Spec{Kind: 6, Nil: true}, api.FaceSizer, wholeNumber(0), noPanic},
		{api.Spec{Kind: 17, Flag: true, Parts: []int{1}}, api.FaceTimedError, list(words("ab"), yes(true)), noPanic},
		{api.Spec{Kind: 17, Flag: true}, api.FaceTimedError, none, atRuntime},
		{api.Spec{Kind: 10, Nil: true}, api.FaceTimedError, list(words("quiet"), yes(false)), noPanic},
		{api.Spec{Kind: 25, Number: 5}, api.FaceCodedCause, none, atRuntime},
		{api.Spec{Kind: 25, Number: 5}, api.FaceCoder, wholeNumber(5), noPanic},
		{api.Spec{Kind: 19}, api.FaceWhole, none, atRuntime},
		{api.Spec{Kind: 19}, api.FaceNobody, none, atRuntime},
		{api.Spec{Kind: 19}, api.FaceAny, none, noPanic},
		{api.Spec{Kind: 9, Nil: true}, api.FaceAny, none, noPanic},
		{api.Spec{Kind: 24, Nil: true}, api.FaceError, none, atRuntime},
	} {
		sayCall(t, callBook(t, x.s), 3, x.face, 0, 0, x.want, x.bad, api.OK)
	}
}

func TestP8_3CodedCause(t *testing.T) {
	b := callBook(t, api.Spec{Kind: 14}, api.Spec{Kind: 25, Number: -7, Parts: []int{3}}, api.Spec{Kind: 14, Parts: []int{2}}, api.Spec{Kind: 25, Number: 9, Parts: []int{5}}, api.Spec{Kind: 14, Nil: true}, api.Spec{Kind: 25, Parts: []int{7}})
	sayCall(t, b, 4, api.FaceCodedCause, 0, 0, list(yes(false), wholeNumber(-7)), noPanic, api.OK)
	sayCall(t, b, 6, api.FaceCodedCause, 0, 0, list(yes(true), wholeNumber(9)), noPanic, api.OK)
	sayCall(t, b, 8, api.FaceCodedCause, 0, 0, none, atRuntime, api.OK)
}

func TestP8_3Judge(t *testing.T) {
	b := callBook(t, api.Spec{Kind: 21, Text: "a"}, api.Spec{Kind: 21, Text: "b"}, api.Spec{Kind: 21, Text: "e", Flag: true}, api.Spec{Kind: 21, Nil: true}, api.Spec{Kind: 7, Text: "z", Flag: true})
	sayCall(t, b, 3, api.FaceJudge, 1, 0, yes(true), noPanic, api.OK)
	sayCall(t, b, 4, api.FaceJudge, 1, 0, yes(false), noPanic, api.OK)
	sayCall(t, b, 3, api.FaceJudge, 3, 0, yes(true), noPanic, api.OK)
	sayCall(t, b, 3, api.FaceJudge, 0, 0, none, atRuntime, api.OK)
	sayCall(t, b, 3, api.FaceJudge, 2, 0, none, atRuntime, api.OK)
	sayCall(t, b, 3, api.FaceJudge, 7, 0, none, own("z"), api.OK)
	sayCall(t, b, 5, api.FaceJudge, 0, 0, none, own("e"), api.OK)
	sayCall(t, b, 6, api.FaceJudge, 1, 0, none, atRuntime, api.OK)
	sayCall(t, b, 1, api.FaceJudge, 1, 0, none, atRuntime, api.OK)
}

func TestP8_3Lender(t *testing.T) {
	b := callBook(t, api.Spec{Kind: 22, Text: "g", Number: -9}, api.Spec{Kind: 22, Nil: true})
	for n, want := range map[int]api.Value{
		0:  list(yes(true), wholeNumber(-9)),
		1:  list(yes(true), wholeNumber(-9)),
		2:  list(yes(false), wholeNumber(0)),
		-1: list(yes(false), wholeNumber(0)), most: list(yes(false), wholeNumber(0)), least: list(yes(false), wholeNumber(0)),
	} {
		sayCall(t, b, 3, api.FaceLender, 0, n, want, noPanic, api.OK)
		sayCall(t, b, 4, api.FaceLender, 0, n, none, atRuntime, api.OK)
		sayCall(t, b, 1, api.FaceLender, 0, n, none, atRuntime, api.OK)
	}
}

// TestP8_3LongText: the text that an Error tells may be as long as a book lets it be, and so longer than the text of a value may be elsewhere.
func TestP8_3LongText(t *testing.T) {
	word := strings.Repeat("x", api.MaxWord)
	b := callBook(t, api.Spec{Kind: api.KindNote, Text: word}, api.Spec{Kind: api.KindJoin, Parts: slices.Repeat([]int{3}, 15)})
	want := strings.TrimSuffix(strings.Repeat(word+"\n", 15), "\n")
	sayCall(t, b, 4, api.FaceError, 0, 0, words(want), noPanic, api.OK)
}

// TestP8_3NoError: no error holds no face, is of no kind, and no method of it can be called.
func TestP8_3NoError(t *testing.T) {
	b := example(t)
	for face := uint8(1); face <= mostFaces; face++ {
		sayHolds(t, b, 0, face, false, api.OK)
		sayCall(t, b, 0, face, 0, 0, none, atRuntime, api.OK)
	}
	for kind := uint8(1); kind <= mostKinds; kind++ {
		sayIs(t, b, 0, kind, false, api.OK)
	}
}

// TestP8_3Refused: the handle is looked at first, then the target, also where the face asks for none, then the face or the kind.
func TestP8_3Refused(t *testing.T) {
	b := example(t)
	for _, h := range badHandles(b.Len()) {
		for _, number := range []uint8{0, 1, api.FaceJudge, 27} {
			sayHolds(t, b, h, number, false, api.ErrHandle)
			sayIs(t, b, h, number, false, api.ErrHandle)
			sayCall(t, b, h, number, 0, 0, none, noPanic, api.ErrHandle)
			sayCall(t, b, 0, number, h, 0, none, noPanic, api.ErrHandle)
			sayCall(t, b, 1, number, h, 0, none, noPanic, api.ErrHandle)
			sayCall(t, b, h, number, h, 0, none, noPanic, api.ErrHandle)
		}
	}
	for _, h := range []int{0, 1, 5} {
		for _, face := range noneOf(mostFaces) {
			sayHolds(t, b, h, face, false, api.ErrFace)
			sayCall(t, b, h, face, h, 0, none, noPanic, api.ErrFace)
		}
		for _, kind := range noneOf(mostKinds) {
			sayIs(t, b, h, kind, false, api.ErrKind)
		}
	}
}

// TestP8_3Same: Call tells what a program of two ops tells.
func TestP8_3Same(t *testing.T) {
	b := allKinds(t)
	for h := range b.Len() + 1 {
		for face := uint8(1); face <= mostFaces; face++ {
			for n := range 3 {
				target := (h + n) % (b.Len() + 1)
				v, p, _ := probe.Call(b, h, face, target, n)
				end := api.EndHalt
				if p != noPanic {
					end = api.EndPanic
				}
				sayRun(t, b, []api.Op{load(h), {Code: api.OpCall, What: face, H: target, N: n}}, []api.Out{{At: 1, Value: v, Panic: p}}, end, 2)
			}
		}
	}
}
