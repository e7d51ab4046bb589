package faces_test

import (
	"math/rand"
	"slices"
	"testing"

	"errata/api"
	"errata/book"
	"errata/faces"
	"errata/kinds"
)

// noPanic and atRuntime are what an assertion comes to.
var (
	noPanic   = api.Panic{}
	atRuntime = api.Panic{Sort: api.RuntimePanic}
)

func sayHolds(t *testing.T, b *book.Book, h int, face uint8, want bool, wrong api.Errno) {
	t.Helper()
	if ok, e := faces.Holds(b, h, face); ok != want || e != wrong {
		t.Errorf("Holds(%d, %d): %t %d, not %t %d", h, face, ok, e, want, wrong)
	}
}

func sayAssert(t *testing.T, b *book.Book, h int, face uint8, want api.Panic, wrong api.Errno) {
	t.Helper()
	if p, e := faces.Assert(b, h, face); p != want || e != wrong {
		t.Errorf("Assert(%d, %d): %v %d, not %v %d", h, face, p, e, want, wrong)
	}
}

func sayHeld(t *testing.T, b *book.Book, h int, want uint32, wrong api.Errno) {
	t.Helper()
	if set, e := faces.Held(b, h); set != want || e != wrong {
		t.Errorf("Held(%d): %b %d, not %b %d", h, set, e, want, wrong)
	}
}

func sayRoad(t *testing.T, b *book.Book, h int, road []uint8, want int, wrong api.Errno) {
	t.Helper()
	if n, e := faces.Road(b, h, road); n != want || e != wrong {
		t.Errorf("Road(%d, %v): %d %d, not %d %d", h, road, n, e, want, wrong)
	}
}

func sayWhich(t *testing.T, b *book.Book, face uint8, want []int, wrong api.Errno) {
	t.Helper()
	if hs, e := faces.Which(b, face); !slices.Equal(hs, want) || e != wrong {
		t.Errorf("Which(%d): %v %d, not %v %d", face, hs, e, want, wrong)
	}
}

func sayShared(t *testing.T, b *book.Book, hs []int, want uint32, wrong api.Errno) {
	t.Helper()
	if set, e := faces.Shared(b, hs); set != want || e != wrong {
		t.Errorf("Shared(%v): %b %d, not %b %d", hs, set, e, want, wrong)
	}
}

// TestP6_1Kinds: each kind holds what chapter 4's table says, bare, nil, and whatever it is about.
func TestP6_1Kinds(t *testing.T) {
	b := allKinds(t)
	for h := range b.Len() + 1 {
		held := heldBy(kindOf(t, b, h))
		sayHeld(t, b, h, held, api.OK)
		for face := uint8(1); face <= most; face++ {
			sayHolds(t, b, h, face, in(held, face), api.OK)
		}
	}
}

// TestP1Assertion: what is told is what the language says of the value that the book hands out.
func TestP1Assertion(t *testing.T) {
	b := allKinds(t)
	for h := range b.Len() + 1 {
		err, _ := b.Error(h)
		held, _ := faces.Held(b, h)
		for i, f := range table {
			face := uint8(i + 1)
			two, bad := f.two(err), panics(err, face)
			want := noPanic
			if bad {
				want = atRuntime
			}
			sayHolds(t, b, h, face, two, api.OK)
			sayAssert(t, b, h, face, want, api.OK)
			if two == bad || in(held, face) != two {
				t.Errorf("%d holds %s: %t, panics %t, held %b", h, f.name, two, bad, held)
			}
		}
	}
}

func TestP6_1Examples(t *testing.T) {
	b := example(t)
	sayHeld(t, b, 1, setOf("error Grader Kinder any"), api.OK)
	sayHeld(t, b, 2, setOf("error Timer TimedError any"), api.OK)
	sayHeld(t, b, 3, setOf("error Grader Coder One CodedCause any"), api.OK)
	sayHeld(t, b, 4, setOf("error Grader Weigher any"), api.OK)
	sayHeld(t, b, 0, 0, api.OK)
	sayHolds(t, b, 1, api.FaceTimer, false, api.OK)
	sayHolds(t, b, 0, api.FaceAny, false, api.OK)
	sayHolds(t, b, 1, api.FaceAny, true, api.OK)
	sayHolds(t, b, 9, api.FaceAny, false, api.ErrHandle)
	sayHolds(t, b, 1, 20, false, api.ErrFace)
}

// TestP6_1NoMethod: a Slow is made by the first call of its Error, and nothing here is one.
func TestP6_1NoMethod(t *testing.T) {
	b := book.New()
	h := give(t, b, api.Spec{Kind: api.KindSlow, Text: "s"})
	about := giveAbout(t, b, api.Spec{Kind: api.KindWrap, Text: "w"}, h)
	for _, x := range []int{h, about} {
		faces.Held(b, x)
		faces.Shared(b, []int{x, x})
		for face := uint8(1); face <= most; face++ {
			faces.Holds(b, x, face)
			faces.Assert(b, x, face)
			faces.Road(b, x, []uint8{api.FaceError, face})
			faces.Which(b, face)
		}
	}
	err, _ := b.Error(h)
	if slow, ok := err.(*kinds.Slow); !ok || slow.Made() {
		t.Error("no Slow, or its Error was called")
	}
}

func TestP6_2Examples(t *testing.T) {
	b := example(t)
	sayAssert(t, b, 2, api.FaceTimer, noPanic, api.OK)
	sayAssert(t, b, 2, api.FaceCoder, atRuntime, api.OK)
	sayAssert(t, b, 0, api.FaceAny, atRuntime, api.OK)
}

func TestP6_2NoError(t *testing.T) {
	b := book.New()
	for face := uint8(1); face <= most; face++ {
		sayHolds(t, b, 0, face, false, api.OK)
		sayAssert(t, b, 0, face, atRuntime, api.OK)
	}
}

func TestP6_3Examples(t *testing.T) {
	b := example(t)
	sayRoad(t, b, 3, []uint8{api.FaceOne, api.FaceCoder, api.FaceAny, api.FaceGrader, api.FaceTimer, api.FaceError}, 4, api.OK)
	sayRoad(t, b, 3, nil, 0, api.OK)
	sayRoad(t, b, 3, []uint8{api.FaceTimer, api.FaceOne}, 0, api.OK)
	sayRoad(t, b, 0, []uint8{api.FaceAny}, 0, api.OK)
	sayRoad(t, b, 0, nil, 0, api.OK)
}

// TestP6_3Bounds: MaxRoad faces are a road, one more are none.
func TestP6_3Bounds(t *testing.T) {
	b := example(t)
	long := slices.Repeat([]uint8{api.FaceError}, faces.MaxRoad)
	sayRoad(t, b, 1, long, 64, api.OK)
	sayRoad(t, b, 0, long, 0, api.OK)
	sayRoad(t, b, 1, append(long, api.FaceError), 0, api.ErrArg)
	sayRoad(t, b, 0, append(long, api.FaceError), 0, api.ErrArg)
	long[63] = api.FaceSizer
	sayRoad(t, b, 1, long, 63, api.OK)
}

// drawnRoad draws faces, mostly such as are in a set.
func drawnRoad(draw *rand.Rand, set uint32) []uint8 {
	var road []uint8
	for range draw.Intn(faces.MaxRoad + 1) {
		face := uint8(1 + draw.Intn(most))
		for range 30 {
			if set == 0 || in(set, face) {
				break
			}
			face = uint8(1 + draw.Intn(most))
		}
		if draw.Intn(40) == 0 {
			face = uint8(1 + draw.Intn(most))
		}
		road = append(road, face)
	}
	return road
}

// firstNotIn is the place of the first of some faces that is not in a set, or how many there are.
func firstNotIn(set uint32, road []uint8) int {
	for i, face := range road {
		if !in(set, face) {
			return i
		}
	}
	return len(road)
}

func TestP6_3Drawn(t *testing.T) {
	draw := rand.New(rand.NewSource(63))
	b := allKinds(t)
	for h := range b.Len() + 1 {
		held := heldBy(kindOf(t, b, h))
		for range 10 {
			road := drawnRoad(draw, held)
			sayRoad(t, b, h, road, firstNotIn(held, road), api.OK)
		}
	}
}

func TestP6_4Examples(t *testing.T) {
	b := example(t)
	sayWhich(t, b, api.FaceGrader, []int{1, 3, 4}, api.OK)
	sayShared(t, b, []int{1, 4}, setOf("error Grader any"), api.OK)
	sayShared(t, b, []int{1, 0}, 0, api.OK)
	sayShared(t, b, nil, everyone, api.OK)
	sayShared(t, book.New(), []int{}, everyone, api.OK)
	sayShared(t, book.New(), []int{0}, 0, api.OK)
}

func TestP6_4Which(t *testing.T) {
	draw := rand.New(rand.NewSource(64))
	for _, b := range []*book.Book{book.New(), allKinds(t), someBook(t, draw, 40), someBook(t, draw, 200)} {
		for face := uint8(1); face <= most; face++ {
			var want []int
			for h := 1; h <= b.Len(); h++ {
				if in(heldBy(kindOf(t, b, h)), face) {
					want = append(want, h)
				}
			}
			sayWhich(t, b, face, want, api.OK)
			sayWhich(t, b.Copy(), face, want, api.OK)
		}
	}
}

func TestP6_4Shared(t *testing.T) {
	draw := rand.New(rand.NewSource(65))
	b := allKinds(t)
	for range 2000 {
		var hs []int
		want := uint32(everyone)
		for range draw.Intn(4) {
			h := draw.Intn(b.Len() + 1)
			hs = append(hs, h)
			want &= heldBy(kindOf(t, b, h))
		}
		sayShared(t, b, hs, want, api.OK)
		sayShared(t, b, append(hs, hs...), want, api.OK)
	}
}
