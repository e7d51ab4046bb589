package probe_test

import (
	"slices"
	"testing"

	"errata/api"
	"errata/book"
	"errata/probe"
)

func sayCheck(t *testing.T, b *book.Book, code []api.Op, want int, wrong api.Errno) {
	t.Helper()
	if at, e := probe.Check(b, code); at != want || e != wrong {
		t.Errorf("Check of %d ops: %d %d, not %d %d", len(code), at, e, want, wrong)
	}
	if wrong == api.OK {
		return
	}
	if outs, end, steps, e := probe.Run(b, code); len(outs) != 0 || end != 0 || steps != 0 || e != wrong {
		t.Errorf("Run of %d ops: %v %d %d %d, not %d alone", len(code), outs, end, steps, e, wrong)
	}
}

// sayOp holds whether an op may be that stands behind another one and ahead of a third.
func sayOp(t *testing.T, b *book.Book, op api.Op, may bool) {
	t.Helper()
	code := []api.Op{{Code: api.OpNil}, op, {Code: api.OpHalt}}
	if may {
		sayCheck(t, b, code, 0, api.OK)
	} else {
		sayCheck(t, b, code, 1, api.ErrOp)
	}
}

const (
	most  = 1<<63 - 1
	least = -1 << 63
)

// unasked is an op of a code whose other fields are all as odd as may be.
func unasked(code uint8) api.Op {
	return api.Op{Code: code, What: 255, H: most, N: least, Cases: []api.Clause{{Kind: 255, Face: 255, To: least}}}
}

func TestP8_1Codes(t *testing.T) {
	b := example(t)
	for _, code := range noneOf(18) {
		sayOp(t, b, api.Op{Code: code, What: 1, H: 1, N: 1}, false)
	}
	for code := uint8(1); code <= 18; code++ {
		sayOp(t, b, api.Op{Code: code, What: 1, H: 1, N: 1}, true)
	}
	for _, code := range []uint8{api.OpNil, api.OpPush, api.OpPop, api.OpDone, api.OpPanic, api.OpHalt} {
		sayOp(t, b, unasked(code), true)
	}
}

func TestP8_1Handles(t *testing.T) {
	b := example(t)
	for _, code := range []uint8{api.OpLoad, api.OpSame} {
		op := unasked(code)
		for op.H = range b.Len() + 1 {
			sayOp(t, b, op, true)
		}
		for _, op.H = range badHandles(b.Len()) {
			sayOp(t, b, op, false)
		}
	}
	op := unasked(api.OpLoad)
	op.H = b.Len() + 1
	give(t, b.Copy(), api.Spec{Kind: api.KindCode})
	sayOp(t, b, op, false)
	give(t, b, api.Spec{Kind: api.KindCode})
	sayOp(t, b, op, true)
}

func TestP8_1Kinds(t *testing.T) {
	b := example(t)
	for _, code := range []uint8{api.OpKind, api.OpMustKind} {
		op := unasked(code)
		for op.What = 1; op.What <= mostKinds; op.What++ {
			sayOp(t, b, op, true)
		}
		for _, op.What = range noneOf(mostKinds) {
			sayOp(t, b, op, false)
		}
	}
}

// TestP8_1Faces: a call asks for a handle only where its face is Judge.
func TestP8_1Faces(t *testing.T) {
	b := example(t)
	for _, code := range []uint8{api.OpFace, api.OpMustFace, api.OpCall, api.OpPart} {
		op := unasked(code)
		for op.What = 1; op.What <= mostFaces; op.What++ {
			sayOp(t, b, op, code != api.OpCall || op.What != api.FaceJudge)
		}
		for _, op.What = range noneOf(mostFaces) {
			sayOp(t, b, op, false)
		}
	}
	judge := unasked(api.OpCall)
	judge.What = api.FaceJudge
	for judge.H = range b.Len() + 1 {
		sayOp(t, b, judge, true)
	}
	for _, judge.H = range badHandles(b.Len()) {
		sayOp(t, b, judge, false)
	}
}

// badPlaces are none in a program of three ops.
func badPlaces() []int { return []int{-1, 4, 5, least, most, 1 << 32} }

func TestP8_1Places(t *testing.T) {
	b := example(t)
	for _, code := range []uint8{api.OpJump, api.OpIf, api.OpCatch, api.OpSwitch} {
		op := unasked(code)
		if code == api.OpSwitch {
			op.Cases = nil
		}
		for op.N = range 4 {
			sayOp(t, b, op, true)
		}
		for _, op.N = range badPlaces() {
			sayOp(t, b, op, false)
		}
	}
}

func TestP8_1Clauses(t *testing.T) {
	b := example(t)
	say := func(c api.Clause, may bool) {
		t.Helper()
		good := api.Clause{Face: api.FaceAny, To: 3}
		for _, cases := range [][]api.Clause{{c}, {good, c}, {c, good}, {good, good, c, good}} {
			sayOp(t, b, api.Op{Code: api.OpSwitch, Cases: cases}, may)
			sayOp(t, b, api.Op{Code: api.OpSwitch, N: -1, Cases: cases}, false)
		}
	}
	for n := range 256 {
		say(api.Clause{Kind: uint8(n)}, n <= mostKinds)
		say(api.Clause{Face: uint8(n)}, n <= mostFaces)
	}
	say(api.Clause{Kind: 1, Face: 1}, false)
	say(api.Clause{Kind: mostKinds, Face: mostFaces}, false)
	say(api.Clause{Kind: 27, Face: 20}, false)
	for to := range 4 {
		say(api.Clause{To: to}, true)
	}
	for _, to := range badPlaces() {
		say(api.Clause{To: to}, false)
		say(api.Clause{Kind: 1, To: to}, false)
	}
}

func TestP8_1First(t *testing.T) {
	b := example(t)
	good, bad := api.Op{Code: api.OpLoad, H: 1}, api.Op{Code: api.OpLoad, H: 9}
	sayCheck(t, b, nil, 0, api.OK)
	sayCheck(t, b, []api.Op{}, 0, api.OK)
	sayCheck(t, b, []api.Op{bad}, 0, api.ErrOp)
	sayCheck(t, b, []api.Op{good, bad, {}, bad}, 1, api.ErrOp)
	sayCheck(t, b, []api.Op{{Code: api.OpHalt}, good, bad}, 2, api.ErrOp) // though it is never done
	sayCheck(t, b, []api.Op{{Code: api.OpJump}}, 0, api.OK)
	sayCheck(t, b, []api.Op{{Code: api.OpJump, N: 1}}, 0, api.OK)
	sayCheck(t, b, []api.Op{{Code: api.OpJump, N: 2}}, 0, api.ErrOp)
}

func TestP8_1Bounds(t *testing.T) {
	b := example(t)
	long := slices.Repeat([]api.Op{{Code: api.OpNil}}, api.MaxSteps)
	sayCheck(t, b, long, 0, api.OK)
	sayCheck(t, b, append(long, api.Op{Code: api.OpNil}), 0, api.ErrArg)
	sayCheck(t, b, append(long, api.Op{}), 0, api.ErrArg)
	sayCheck(t, b, slices.Repeat([]api.Op{{}}, api.MaxSteps+1), 0, api.ErrArg)
	long[api.MaxSteps-1] = api.Op{Code: api.OpJump, N: api.MaxSteps + 1}
	sayCheck(t, b, long, api.MaxSteps-1, api.ErrOp)
	long[api.MaxSteps-1].N = api.MaxSteps
	sayCheck(t, b, long, 0, api.OK)
}

// TestR1NilBook: ErrNil is answered ahead of everything else.
func TestR1NilBook(t *testing.T) {
	for _, code := range [][]api.Op{nil, {{Code: api.OpHalt}}, {{}}, make([]api.Op, api.MaxSteps+1)} {
		sayCheck(t, nil, code, 0, api.ErrNil)
	}
	for _, h := range []int{0, 1, -1} {
		sayHolds(t, nil, h, 1, false, api.ErrNil)
		sayHolds(t, nil, h, 0, false, api.ErrNil)
		sayIs(t, nil, h, 1, false, api.ErrNil)
		sayIs(t, nil, h, 0, false, api.ErrNil)
		sayCall(t, nil, h, 1, h, 0, none, noPanic, api.ErrNil)
		sayCall(t, nil, h, 0, h, 0, none, noPanic, api.ErrNil)
	}
}

// TestR1BareBook: of a book that New did not make nothing is promised but that no call panics.
func TestR1BareBook(t *testing.T) {
	b := &book.Book{}
	for _, h := range []int{0, 1, -1} {
		for code := range uint8(20) {
			ops := []api.Op{{Code: api.OpLoad, H: h}, {Code: code, H: h, What: 9}}
			probe.Check(b, ops)
			probe.Run(b, ops)
		}
		probe.Holds(b, h, 1)
		probe.Is(b, h, 1)
		probe.Call(b, h, 1, h, 0)
	}
}
