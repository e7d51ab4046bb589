package faces_test

import (
	"slices"
	"testing"

	"errata/api"
	"errata/book"
	"errata/faces"
)

func TestP6_1RefusedHandles(t *testing.T) {
	b := book.New()
	for n := range 4 {
		for _, h := range badHandles(n) {
			sayHeld(t, b, h, 0, api.ErrHandle)
			for _, face := range []uint8{0, 1, 19, 20, 255} {
				sayHolds(t, b, h, face, false, api.ErrHandle)
				sayAssert(t, b, h, face, noPanic, api.ErrHandle)
				sayRoad(t, b, h, []uint8{face}, 0, api.ErrHandle)
			}
			sayRoad(t, b, h, nil, 0, api.ErrHandle)
			sayRoad(t, b, h, make([]uint8, faces.MaxRoad+1), 0, api.ErrHandle)
		}
		give(t, b, api.Spec{Kind: api.KindNote})
	}
}

func TestP6_1RefusedFaces(t *testing.T) {
	b := example(t)
	for _, face := range noFaces() {
		for h := range b.Len() + 1 {
			sayHolds(t, b, h, face, false, api.ErrFace)
			sayAssert(t, b, h, face, noPanic, api.ErrFace)
		}
		sayWhich(t, b, face, nil, api.ErrFace)
		sayWhich(t, book.New(), face, nil, api.ErrFace)
	}
}

// TestP6_3Refused: a number that is no face spoils a road wherever it stands, behind what does not hold, too.
func TestP6_3Refused(t *testing.T) {
	b := example(t)
	for _, face := range noFaces() {
		for h := range b.Len() + 1 {
			sayRoad(t, b, h, []uint8{face}, 0, api.ErrFace)
			sayRoad(t, b, h, []uint8{api.FaceError, api.FaceAny, face}, 0, api.ErrFace)
			sayRoad(t, b, h, []uint8{api.FaceNobody, api.FaceNobody, face, api.FaceError}, 0, api.ErrFace)
		}
	}
	sayRoad(t, b, 1, make([]uint8, faces.MaxRoad), 0, api.ErrFace)
	sayRoad(t, b, 1, make([]uint8, faces.MaxRoad+1), 0, api.ErrArg)
}

func TestP6_4Refused(t *testing.T) {
	b := example(t)
	for _, h := range badHandles(b.Len()) {
		for _, hs := range [][]int{{h}, {1, h}, {h, 1}, {0, h}, {1, 2, h, 3}} {
			sayShared(t, b, hs, 0, api.ErrHandle)
		}
		if h != 1 {
			sayShared(t, book.New(), []int{0, h}, 0, api.ErrHandle)
		}
	}
}

// TestR1NilBook: ErrNil is answered ahead of everything else.
func TestR1NilBook(t *testing.T) {
	for _, h := range []int{0, 1, -1, 1 << 40} {
		for _, face := range []uint8{0, 1, 19, 20, 255} {
			sayHolds(t, nil, h, face, false, api.ErrNil)
			sayAssert(t, nil, h, face, noPanic, api.ErrNil)
			sayRoad(t, nil, h, []uint8{face}, 0, api.ErrNil)
			sayWhich(t, nil, face, nil, api.ErrNil)
		}
		sayHeld(t, nil, h, 0, api.ErrNil)
		sayRoad(t, nil, h, nil, 0, api.ErrNil)
		sayRoad(t, nil, h, make([]uint8, faces.MaxRoad+1), 0, api.ErrNil)
		sayShared(t, nil, []int{h}, 0, api.ErrNil)
	}
	sayShared(t, nil, nil, 0, api.ErrNil)
}

// TestR1BareBook: of a book that New did not make nothing is promised but that no call panics.
func TestR1BareBook(t *testing.T) {
	b := &book.Book{}
	for _, h := range []int{0, 1, -1} {
		faces.Held(b, h)
		faces.Shared(b, []int{h})
		for _, face := range []uint8{0, 1, 19, 20, 255} {
			faces.Holds(b, h, face)
			faces.Assert(b, h, face)
			faces.Road(b, h, []uint8{face})
			faces.Which(b, face)
		}
	}
}

// TestR3Lists: what is handed in stays, with the room behind its end, and what is handed out is new each time.
func TestR3Lists(t *testing.T) {
	b := example(t)
	road := []uint8{api.FaceError, api.FaceTimer, 77, 78}
	hs := []int{1, 3, 77, 78}
	sayRoad(t, b, 2, road[:2], 2, api.OK)
	sayShared(t, b, hs[:2], setOf("error Grader any"), api.OK)
	if !slices.Equal(road, []uint8{1, 6, 77, 78}) || !slices.Equal(hs, []int{1, 3, 77, 78}) {
		t.Error("what was handed in is now", road, hs)
	}
	found, _ := faces.Which(b, api.FaceGrader)
	other, _ := faces.Which(b, api.FaceGrader)
	for i := range found[:cap(found)] {
		found[:cap(found)][i] = 99
	}
	if !slices.Equal(other, []int{1, 3, 4}) {
		t.Error("two answers share their memory:", other)
	}
	sayWhich(t, b, api.FaceGrader, []int{1, 3, 4}, api.OK)
}
