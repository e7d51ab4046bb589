package probe_test

import (
	"slices"
	"testing"

	"errata/api"
	"errata/book"
	"errata/probe"
)

func sayRun(t *testing.T, b *book.Book, code []api.Op, want []api.Out, wantEnd, wantSteps int) {
	t.Helper()
	outs, end, steps, e := probe.Run(b, code)
	if !slices.EqualFunc(outs, want, sameOut) || end != wantEnd || steps != wantSteps || e != api.OK {
		t.Errorf("Run of %v:\n%v %d %d %d, not\n%v %d %d", few(code), few(outs), end, steps, e, few(want), wantEnd, wantSteps)
	}
}

// few are the first of a list that may be too long to be told.
func few[T any](all []T) []T { return all[:min(len(all), 50)] }

// Ops in few words.
var (
	pushX = api.Op{Code: api.OpPush}
	popX  = api.Op{Code: api.OpPop}
	isNil = api.Op{Code: api.OpNil}
	doneX = api.Op{Code: api.OpDone}
	raise = api.Op{Code: api.OpPanic}
	halt  = api.Op{Code: api.OpHalt}
)

func load(h int) api.Op { return api.Op{Code: api.OpLoad, H: h} }

func isKind(kind uint8) api.Op { return api.Op{Code: api.OpKind, What: kind} }

func isFace(face uint8) api.Op { return api.Op{Code: api.OpFace, What: face} }

func mustBeKind(kind uint8) api.Op { return api.Op{Code: api.OpMustKind, What: kind} }

func mustBeFace(face uint8) api.Op { return api.Op{Code: api.OpMustFace, What: face} }

func call(face uint8) api.Op { return api.Op{Code: api.OpCall, What: face} }

func same(h int) api.Op { return api.Op{Code: api.OpSame, H: h} }

func part(face uint8, n int) api.Op { return api.Op{Code: api.OpPart, What: face, N: n} }

func jump(n int) api.Op { return api.Op{Code: api.OpJump, N: n} }

func jumpIf(n int) api.Op { return api.Op{Code: api.OpIf, N: n} }

func catch(n int) api.Op { return api.Op{Code: api.OpCatch, N: n} }

func choose(n int, cases ...api.Clause) api.Op {
	return api.Op{Code: api.OpSwitch, N: n, Cases: cases}
}

func flag(at int, is bool) api.Out { return api.Out{At: at, Flag: is} }

func told(at int, v api.Value) api.Out { return api.Out{At: at, Value: v} }

func bad(at int, p api.Panic) api.Out { return api.Out{At: at, Panic: p} }

func TestP8_2Examples(t *testing.T) {
	b := example(t)
	for _, x := range []struct {
		code       []api.Op
		outs       []api.Out
		end, steps int
	}{
		{[]api.Op{load(1), isFace(api.FaceGrader), mustBeKind(api.KindNote)}, []api.Out{flag(1, true), bad(2, atRuntime)}, api.EndPanic, 3},
		{[]api.Op{load(2), isNil, call(api.FaceError)}, []api.Out{flag(1, false), bad(2, atRuntime)}, api.EndPanic, 3},
		{[]api.Op{catch(4), load(2), isNil, call(api.FaceError), halt}, []api.Out{flag(2, false), bad(3, atRuntime)}, api.EndHalt, 5},
		{[]api.Op{load(3), part(api.FaceOne, 0), same(1), call(api.FaceCoder)}, []api.Out{flag(2, true), bad(3, atRuntime)}, api.EndPanic, 4},
		{[]api.Op{load(4), same(4)}, []api.Out{bad(1, atRuntime)}, api.EndPanic, 2},
		{[]api.Op{load(1), same(4)}, []api.Out{flag(1, false)}, api.EndHalt, 2},
		{[]api.Op{load(5), {Code: api.OpCall, What: api.FaceJudge, H: 1}}, []api.Out{bad(1, own("e"))}, api.EndPanic, 2},
		{[]api.Op{load(1), choose(5, api.Clause{Face: api.FaceCoder, To: 4}, api.Clause{Kind: api.KindCode, To: 3}), halt, isNil, halt, halt}, []api.Out{flag(3, false)}, api.EndHalt, 4},
		{[]api.Op{load(3), raise}, []api.Out{bad(1, ownOf(3))}, api.EndPanic, 2},
		{[]api.Op{popX, raise}, []api.Out{bad(1, atRuntime)}, api.EndPanic, 2},
		{[]api.Op{jump(0)}, nil, api.EndSteps, 10000},
	} {
		sayRun(t, b, x.code, x.outs, x.end, x.steps)
	}
}

// TestP8_2Beginning: no error, a false flag, nothing pushed, no catch.
func TestP8_2Beginning(t *testing.T) {
	b := example(t)
	sayRun(t, b, nil, nil, api.EndHalt, 0)
	sayRun(t, b, []api.Op{}, nil, api.EndHalt, 0)
	sayRun(t, b, []api.Op{isNil}, []api.Out{flag(0, true)}, api.EndHalt, 1)
	sayRun(t, b, []api.Op{raise}, []api.Out{bad(0, atRuntime)}, api.EndPanic, 1)
	sayRun(t, b, []api.Op{jumpIf(2), isNil, halt}, []api.Out{flag(1, true)}, api.EndHalt, 3)
	sayRun(t, b, []api.Op{load(1), popX, isNil}, []api.Out{flag(2, true)}, api.EndHalt, 3)
	sayRun(t, b, []api.Op{doneX, doneX, isNil}, []api.Out{flag(2, true)}, api.EndHalt, 3)
	sayRun(t, b, []api.Op{mustBeFace(api.FaceAny)}, []api.Out{bad(0, atRuntime)}, api.EndPanic, 1)
	sayRun(t, b, []api.Op{same(0), same(1), same(4)}, []api.Out{flag(0, true), flag(1, false), flag(2, false)}, api.EndHalt, 3)
}

func TestP8_2Ends(t *testing.T) {
	b := example(t)
	sayRun(t, b, []api.Op{halt, isNil}, nil, api.EndHalt, 1)
	sayRun(t, b, []api.Op{jump(2), isNil}, nil, api.EndHalt, 1)
	sayRun(t, b, []api.Op{catch(2), raise}, []api.Out{bad(1, atRuntime)}, api.EndHalt, 2)
	sayRun(t, b, []api.Op{choose(1)}, nil, api.EndHalt, 1)
	loop := []api.Op{catch(0), raise}
	var want []api.Out
	for range 5000 {
		want = append(want, bad(1, atRuntime))
	}
	sayRun(t, b, loop, want, api.EndSteps, 10000)
}

// TestP8_2Steps: the MaxSteps-th op may end a run; one more is not done.
func TestP8_2Steps(t *testing.T) {
	b := example(t)
	for _, x := range []struct {
		last       api.Op
		outs       []api.Out
		end, steps int
	}{
		{halt, nil, api.EndHalt, 10000},
		{pushX, nil, api.EndHalt, 10000},
		{jump(10000), nil, api.EndHalt, 10000},
		{jump(0), nil, api.EndSteps, 10000},
		{raise, []api.Out{bad(9999, ownOf(1))}, api.EndPanic, 10000},
	} {
		code := slices.Repeat([]api.Op{load(1)}, api.MaxSteps)
		code[api.MaxSteps-1] = x.last
		sayRun(t, b, code, x.outs, x.end, x.steps)
	}
	caught := slices.Repeat([]api.Op{load(1)}, api.MaxSteps)
	caught[0], caught[9999] = catch(10000), raise
	sayRun(t, b, caught, []api.Out{bad(9999, ownOf(1))}, api.EndHalt, 10000)
	caught[0] = catch(1)
	sayRun(t, b, caught, []api.Out{bad(9999, ownOf(1))}, api.EndSteps, 10000)
}

// TestP8_2Flag: ops that tell none leave the flag as it was.
func TestP8_2Flag(t *testing.T) {
	b := example(t)
	for _, op := range []api.Op{load(3), mustBeKind(api.KindCode), mustBeFace(api.FaceGrader), pushX, popX, jump(3), catch(3), doneX} {
		sayRun(t, b, []api.Op{load(1), isKind(api.KindCode), op, jumpIf(5), isNil}, []api.Out{flag(1, true)}, api.EndHalt, 4)
		sayRun(t, b, []api.Op{load(1), isKind(api.KindNote), op, jumpIf(5), halt}, []api.Out{flag(1, false)}, api.EndHalt, 5)
	}
	sayRun(t, b, []api.Op{load(1), isFace(api.FaceKinder), call(api.FaceGrader), jumpIf(5), isNil}, []api.Out{flag(1, true), told(2, wholeNumber(7))}, api.EndHalt, 4)
	sayRun(t, b, []api.Op{load(1), isFace(api.FaceCoder), jumpIf(0)}, []api.Out{flag(1, false)}, api.EndHalt, 3)
}

func TestP8_2Pushed(t *testing.T) {
	b := example(t)
	sayRun(t, b, []api.Op{load(1), pushX, load(3), pushX, load(2), popX, same(3), popX, same(1), popX, isNil},
		[]api.Out{flag(6, true), flag(8, true), flag(10, true)}, api.EndHalt, 11)
	sayRun(t, b, []api.Op{load(3), pushX, load(1), popX, raise}, []api.Out{bad(4, ownOf(3))}, api.EndPanic, 5)
	sayRun(t, b, []api.Op{load(3), part(api.FaceOne, 0), pushX, load(2), popX, raise}, []api.Out{bad(5, ownOf(1))}, api.EndPanic, 6)
	sayRun(t, b, []api.Op{pushX, load(3), popX, raise}, []api.Out{bad(3, atRuntime)}, api.EndPanic, 4)
}

// TestP8_2Row: 64 are pushed, no more; no error is one of them, too.
func TestP8_2Row(t *testing.T) {
	b := example(t)
	for _, n := range []int{63, 64, 65, 200} {
		code := []api.Op{load(0), pushX, load(1)}
		for range n - 1 {
			code = append(code, pushX)
		}
		code = append(code, load(3), pushX)
		var want []api.Out
		for range 70 {
			code = append(code, popX, isKind(api.KindWrap), isKind(api.KindCode))
			left := min(n+1, 64) - len(want)/2
			want = append(want, flag(len(code)-2, left == 64 && n == 63), flag(len(code)-1, left > 1 && (left < 64 || n > 63)))
		}
		sayRun(t, b, code, want, api.EndHalt, len(code))
	}
}

// TestP8_2Catches: the last one set is the first one taken, and each is taken once.
func TestP8_2Catches(t *testing.T) {
	b := example(t)
	sayRun(t, b, []api.Op{catch(6), catch(4), load(1), raise, load(3), raise, load(4), raise},
		[]api.Out{bad(3, ownOf(1)), bad(5, ownOf(3)), bad(7, ownOf(4))}, api.EndPanic, 8)
	sayRun(t, b, []api.Op{catch(5), catch(6), doneX, load(1), raise, load(3), raise},
		[]api.Out{bad(4, ownOf(1)), bad(6, ownOf(3))}, api.EndPanic, 7)
	sayRun(t, b, []api.Op{catch(3), doneX, raise, isNil}, []api.Out{bad(2, atRuntime)}, api.EndPanic, 3)
	code := slices.Repeat([]api.Op{catch(5000)}, 5000)
	var want []api.Out
	for range 5000 {
		want = append(want, bad(5000, atRuntime))
	}
	sayRun(t, b, append(code, raise), want, api.EndSteps, 10000)
}

// TestP8_2Kept: where an op panics, x, the flag and what was pushed are as they were.
func TestP8_2Kept(t *testing.T) {
	b := example(t)
	wrong := []api.Op{mustBeKind(api.KindCode), mustBeFace(api.FaceGrader), call(api.FaceGrader), call(api.FaceNobody), same(4), part(api.FaceOne, 0), part(api.FaceMany, 0), part(api.FaceError, 0), raise}
	for _, op := range wrong {
		code := []api.Op{catch(7), load(3), pushX, load(4), isKind(api.KindBag), op, halt, jumpIf(9), halt, isKind(api.KindBag), popX, raise}
		p := atRuntime
		if op.Code == api.OpPanic {
			p = ownOf(4)
		}
		sayRun(t, b, code, []api.Out{flag(4, true), bad(5, p), flag(9, true), bad(11, ownOf(3))}, api.EndPanic, 10)
	}
	sayRun(t, b, []api.Op{catch(4), load(4), isKind(api.KindCode), same(4), jumpIf(6), raise}, []api.Out{flag(2, false), bad(3, atRuntime), bad(5, ownOf(4))}, api.EndPanic, 6)
}

func TestP8_2Switch(t *testing.T) {
	b := example(t)
	kind := func(n uint8, to int) api.Clause { return api.Clause{Kind: n, To: to} }
	face := func(n uint8, to int) api.Clause { return api.Clause{Face: n, To: to} }
	nothing := func(to int) api.Clause { return api.Clause{To: to} }
	for _, x := range []struct {
		h     int
		cases []api.Clause
		to    int
	}{
		{1, nil, 9},
		{0, nil, 9},
		{1, []api.Clause{kind(api.KindCode, 3), kind(api.KindCode, 4)}, 3},
		{1, []api.Clause{kind(api.KindNote, 3), face(api.FaceKinder, 4), kind(api.KindCode, 5)}, 4},
		{1, []api.Clause{nothing(3), face(api.FaceAny, 4)}, 4},
		{0, []api.Clause{face(api.FaceAny, 4), face(api.FaceError, 5), kind(api.KindCode, 6), nothing(3), nothing(7)}, 3},
		{2, []api.Clause{nothing(3), kind(api.KindPlain, 4)}, 4}, // a typed nil is not no error
		{2, []api.Clause{nothing(3), face(api.FaceOne, 4)}, 9},
		{3, []api.Clause{face(api.FaceMany, 3), kind(api.KindOver, 4), face(api.FaceOne, 5)}, 5},
		{4, []api.Clause{face(api.FaceNobody, 3), face(api.FaceWhole, 4)}, 9},
	} {
		// Each place from 3 on gives up there, so that the Out tells where it went on.
		code := append([]api.Op{load(x.h), choose(9, x.cases...), halt}, slices.Repeat([]api.Op{raise}, 7)...)
		p := ownOf(x.h)
		if x.h == 0 {
			p = atRuntime
		}
		sayRun(t, b, code, []api.Out{bad(x.to, p)}, api.EndPanic, 3)
	}
}

// partBook has two like Codes, what is about them and one another, and what has no part, or is nil.
func partBook(t *testing.T) *book.Book {
	t.Helper()
	b := book.New()
	for i, s := range []api.Spec{
		{Kind: api.KindCode, Number: 7},
		{Kind: api.KindCode, Number: 7},
		{Kind: api.KindWrap, Parts: []int{2}}, // 3
		{Kind: api.KindFull, Parts: []int{3}},
		{Kind: api.KindPlain, Nil: true},
		{Kind: api.KindJoin, Parts: []int{2, 0, 1, 5}}, // 6
		{Kind: api.KindOpaque, Items: []string{"n"}, Parts: []int{0, 4}},
		{Kind: api.KindWrap},
		{Kind: api.KindWrap, Parts: []int{0}}, // 9
		{Kind: api.KindWrap, Nil: true},
		{Kind: api.KindJoin, Nil: true},
		{Kind: api.KindOpaque, Nil: true}, // 12
		{Kind: api.KindFull},
		{Kind: api.KindFull, Parts: []int{10}},
		{Kind: api.KindFull, Parts: []int{8}}, // 15
		{Kind: api.KindOver, Parts: []int{6}},
		{Kind: api.KindHold, Parts: []int{1}},
	} {
		if h := give(t, b, s); h != i+1 {
			t.Fatalf("the handle %d, not %d", h, i+1)
		}
	}
	return b
}

// TestP8_2Part: x is the part that Unwrap tells, under its own handle, and no error where there is none.
func TestP8_2Part(t *testing.T) {
	b := partBook(t)
	const gone = -1 // it panics
	for _, x := range []struct {
		h    int
		face uint8
		n    int
		want int
	}{
		{3, api.FaceOne, 0, 2}, {3, api.FaceOne, 1, 0}, {3, api.FaceOne, -1, 0}, {3, api.FaceOne, most, 0}, {3, api.FaceOne, least, 0},
		{3, api.FaceMany, 0, gone}, {3, api.FaceError, 0, 2}, {3, api.FaceNobody, 0, 2}, {3, api.FaceMany, 1, gone},
		{4, api.FaceOne, 0, 2}, {4, api.FaceCodedCause, 0, 2}, {4, api.FaceOne, 1, 0}, {4, api.FaceMany, 0, gone},
		{6, api.FaceMany, 0, 2}, {6, api.FaceMany, 1, 0}, {6, api.FaceMany, 2, 1}, {6, api.FaceMany, 3, 5}, {6, api.FaceMany, 4, 0}, {6, api.FaceMany, -1, 0},
		{6, api.FaceOne, 0, gone}, {6, api.FaceAny, 2, 1}, {6, api.FaceNobody, 3, 5}, {6, api.FaceCodedCause, 0, 2},
		{7, api.FaceMany, 1, 4}, {7, api.FaceMany, 0, 0}, {7, api.FaceGrader, 1, 4}, {7, api.FaceOne, 0, gone},
		{8, api.FaceOne, 0, 0}, {9, api.FaceOne, 0, 0}, {9, api.FaceAny, 0, 0}, {10, api.FaceOne, 0, gone}, {10, api.FaceOne, 9, gone}, {10, api.FaceAny, 0, gone},
		{11, api.FaceMany, 0, gone}, {11, api.FaceAny, 9, gone}, {12, api.FaceMany, 0, gone}, {12, api.FaceOne, 0, gone},
		{13, api.FaceOne, 0, gone}, {13, api.FaceOne, 1, gone}, {14, api.FaceOne, 0, gone}, {15, api.FaceOne, 0, 0}, {16, api.FaceOne, 0, 6},
		{17, api.FaceOne, 0, gone}, {17, api.FaceAny, 0, gone}, {1, api.FaceKinder, 0, gone}, {0, api.FaceOne, 0, gone}, {0, api.FaceMany, 0, gone}, {0, api.FaceAny, 0, gone}, {5, api.FaceOne, 0, gone},
	} {
		code := []api.Op{load(x.h), part(x.face, x.n), isNil, raise}
		switch x.want {
		case gone:
			sayRun(t, b, code, []api.Out{bad(1, atRuntime)}, api.EndPanic, 2)
		case 0:
			sayRun(t, b, code, []api.Out{flag(2, true), bad(3, atRuntime)}, api.EndPanic, 4)
		default:
			sayRun(t, b, code, []api.Out{flag(2, false), bad(3, ownOf(x.want))}, api.EndPanic, 4)
		}
	}
	sayRun(t, b, []api.Op{load(16), part(api.FaceOne, 0), part(api.FaceMany, 2), raise}, []api.Out{bad(3, ownOf(1))}, api.EndPanic, 4)
	sayRun(t, b, []api.Op{load(7), part(api.FaceMany, 1), part(api.FaceOne, 0), raise}, []api.Out{bad(3, ownOf(2))}, api.EndPanic, 4)
}

// TestP8_2PartKept: what a part is, is the value that the book hands out.
func TestP8_2PartKept(t *testing.T) {
	b := book.New()
	plain := give(t, b, api.Spec{Kind: api.KindPlain, Text: "p"})
	give(t, b, api.Spec{Kind: api.KindPlain, Text: "p"})
	over := giveAbout(t, b, api.Spec{Kind: api.KindOver}, plain)
	sayRun(t, b, []api.Op{load(over), part(api.FaceOne, 0), same(1), same(2), call(api.FaceError), isFace(api.FaceGrader)},
		[]api.Out{flag(2, true), flag(3, false), told(4, words("p")), flag(5, false)}, api.EndHalt, 6)
}
