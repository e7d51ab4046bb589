package probe_test

import (
	"math/rand"
	"testing"

	"errata/api"
	"errata/book"
	"errata/kinds"
	"errata/probe"
)

// TestP8_4Language: of each error, each face, kind, call and other error is told what the language says; P1 says the same of the whole.
func TestP8_4Language(t *testing.T) {
	b := allKinds(t)
	for h := range b.Len() + 1 {
		x := errorOf(t, b, h)
		for kind := uint8(1); kind <= mostKinds; kind++ {
			sayBoth(t, b, h, isKind(kind), mustBeKind(kind), isOfKind(x, kind), caught(func() { mustKind(x, kind) }))
		}
		for face := uint8(1); face <= mostFaces; face++ {
			sayBoth(t, b, h, isFace(face), mustBeFace(face), holdsFace(x, face), caught(func() { faceTypes[face-1].one(x) }))
			for n := range 3 {
				target := (h*3 + n) % (b.Len() + 1)
				v, p := said(x, face, errorOf(t, b, target), n)
				sayCall(t, b, h, face, target, n, v, p, api.OK)
			}
		}
		if t.Failed() {
			return
		}
	}
}

// sayBoth holds the op that tells and the op that panics against what the language says.
func sayBoth(t *testing.T, b *book.Book, h int, tells, panics api.Op, want bool, p api.Panic) {
	t.Helper()
	if want != (p == noPanic) {
		t.Fatalf("the two forms of %v: %t, %v", tells, want, p)
	}
	outs, end := []api.Out{flag(1, want)}, api.EndHalt
	if p != noPanic {
		outs, end = append(outs, bad(2, p)), api.EndPanic
	}
	sayRun(t, b, []api.Op{load(h), tells, panics}, outs, end, 3)
}

// TestP8_4Same: comparing is what == comes to.
func TestP8_4Same(t *testing.T) {
	b := allKinds(t)
	unlike, alike, panics := 0, 0, 0
	for x := range b.Len() + 1 {
		for y := range b.Len() + 1 {
			outs, end, steps := played(b, []api.Op{load(x), same(y)})
			sayRun(t, b, []api.Op{load(x), same(y)}, outs, end, steps)
			switch {
			case end == api.EndPanic:
				panics++
			case outs[0].Flag:
				alike++
			default:
				unlike++
			}
		}
		if t.Failed() {
			return
		}
	}
	if unlike < 50 || alike < 50 || panics < 50 {
		t.Error("how often each answer was told:", unlike, alike, panics)
	}
}

// TestP8_4Switch: of each error a clause with a kind, with a face, and with neither holds just where the language says so.
func TestP8_4Switch(t *testing.T) {
	b := allKinds(t)
	for h := range b.Len() + 1 {
		x := errorOf(t, b, h)
		say := func(c api.Clause, holds bool) {
			t.Helper()
			outs := []api.Out{flag(2, h == 0)}
			if holds {
				outs = nil
			}
			c.To = 3
			sayRun(t, b, []api.Op{load(h), choose(2, c), isNil}, outs, api.EndHalt, 2+len(outs))
		}
		for kind := uint8(1); kind <= mostKinds; kind++ {
			say(api.Clause{Kind: kind}, isOfKind(x, kind))
		}
		for face := uint8(1); face <= mostFaces; face++ {
			say(api.Clause{Face: face}, holdsFace(x, face))
		}
		say(api.Clause{}, x == nil)
	}
}

// drawnOp draws an op that may be of a program of so many ops.
func drawnOp(draw *rand.Rand, b *book.Book, ops int) api.Op {
	codes := []uint8{1, 1, 1, 2, 3, 4, 5, 6, 6, 7, 8, 9, 9, 9, 10, 11, 12, 13, 14, 14, 14, 15, 16, 17, 18}
	place := func() int { return draw.Intn(ops + 1) }
	op := api.Op{Code: codes[draw.Intn(len(codes))], H: draw.Intn(b.Len() + 1), N: place()}
	switch op.Code {
	case api.OpKind, api.OpMustKind:
		op.What = uint8(1 + draw.Intn(mostKinds))
	case api.OpFace, api.OpMustFace, api.OpCall:
		op.What = uint8(1 + draw.Intn(mostFaces))
	case api.OpPart:
		op.What, op.N = []uint8{1, 3, 9, 9, 10, 10, 16, 18, 19}[draw.Intn(9)], draw.Intn(6)-1
	case api.OpSwitch:
		for range draw.Intn(6) {
			c := api.Clause{To: place()}
			switch draw.Intn(5) {
			case 0, 1:
				c.Kind = uint8(1 + draw.Intn(mostKinds))
			case 2, 3:
				c.Face = uint8(1 + draw.Intn(mostFaces))
			}
			op.Cases = append(op.Cases, c)
		}
	}
	if op.Code == api.OpCall && op.What == api.FaceLender {
		op.N = draw.Intn(4) - 1
	}
	return op
}

// TestP8_4Drawn: programs of all ops do what the chapter's machine does, and once more the same.
func TestP8_4Drawn(t *testing.T) {
	draw := rand.New(rand.NewSource(84))
	b := allKinds(t)
	ends, ops := map[int]int{}, 0
	for range 6000 {
		code := make([]api.Op, draw.Intn(40))
		for i := range code {
			code[i] = drawnOp(draw, b, len(code))
		}
		outs, end, steps := played(b, code)
		sayRun(t, b, code, outs, end, steps)
		if draw.Intn(10) == 0 {
			sayRun(t, b, code, outs, end, steps)
		}
		if t.Failed() {
			return
		}
		ends[end]++
		ops += len(outs)
	}
	if ends[api.EndHalt] < 300 || ends[api.EndPanic] < 300 || ends[api.EndSteps] < 100 || ops < 10000 {
		t.Error("how often each end was told, and how many Outs:", ends, ops)
	}
}

// slowBook: 1 a Slow, 2 an Over about it, 3 a Wrap about that, 4 a Join about all.
func slowBook(t *testing.T) (*book.Book, *kinds.Slow) {
	t.Helper()
	b := book.New()
	give(t, b, api.Spec{Kind: api.KindSlow, Text: "s"})
	giveAbout(t, b, api.Spec{Kind: api.KindOver}, 1)
	giveAbout(t, b, api.Spec{Kind: api.KindWrap}, 2)
	giveAbout(t, b, api.Spec{Kind: api.KindJoin}, 1, 2, 3)
	slow, ok := errorOf(t, b, 1).(*kinds.Slow)
	if !ok {
		t.Fatal("no Slow")
	}
	return b, slow
}

// TestP8_4NoMethod: a Slow is made by the first call of its Error; only a call of that is one.
func TestP8_4NoMethod(t *testing.T) {
	b, slow := slowBook(t)
	for h := range b.Len() + 1 {
		code := []api.Op{load(h), pushX, isNil, same(1), part(api.FaceAny, 0), popX, catch(8), raise, choose(9, api.Clause{Kind: api.KindSlow, To: 9})}
		for kind := uint8(1); kind <= mostKinds; kind++ {
			code = append(code, isKind(kind), catch(len(code)+3), mustBeKind(kind))
			probe.Is(b, h, kind)
		}
		for face := uint8(1); face <= mostFaces; face++ {
			code = append(code, isFace(face), catch(len(code)+3), mustBeFace(face))
			probe.Holds(b, h, face)
			if face != api.FaceError {
				probe.Call(b, h, face, h, 0)
			}
		}
		probe.Check(b, code)
		probe.Run(b, code)
	}
	if slow.Made() {
		t.Error("an Error was called")
	}
	sayRun(t, b, []api.Op{load(2), call(api.FaceError)}, []api.Out{told(1, words(": s"))}, api.EndHalt, 2)
	if !slow.Made() {
		t.Error("no Error was called")
	}
	sayRun(t, b, []api.Op{load(2), call(api.FaceError)}, []api.Out{told(1, words(": s"))}, api.EndHalt, 2)
}
