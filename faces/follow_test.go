package faces_test

import (
	"math/rand"
	"testing"

	"errata/api"
	"errata/faces"
)

// TestP6_7ByKind: errors of one kind hold the same, whatever they are made of.
func TestP6_7ByKind(t *testing.T) {
	b := allKinds(t)
	held := map[uint8]uint32{}
	for h := 1; h <= b.Len(); h++ {
		set, e := faces.Held(b, h)
		kind := kindOf(t, b, h)
		first, ok := held[kind]
		if e != api.OK || ok && first != set {
			t.Errorf("%d, of the kind %d, holds %b, another one %b", h, kind, set, first)
		}
		held[kind] = set
	}
	if len(held) != 26 {
		t.Error("kinds that were asked:", len(held))
	}
}

func TestP6_7Follows(t *testing.T) {
	b := allKinds(t)
	for h := 1; h <= b.Len(); h++ {
		held, _ := faces.Held(b, h)
		if faces.Closure(held) != held {
			t.Errorf("%d holds %b, whose Closure is %b", h, held, faces.Closure(held))
		}
		for one := uint8(1); one <= most; one++ {
			for other := uint8(1); other <= most; other++ {
				follows, _ := faces.Follows(one, other)
				if follows && in(held, one) && !in(held, other) {
					t.Errorf("%d holds %d, not %d", h, one, other)
				}
			}
		}
	}
}

// TestP6_7Sets: an error holds all of a set just if it holds its Core's faces, and then all of its Closure.
func TestP6_7Sets(t *testing.T) {
	draw := rand.New(rand.NewSource(67))
	b := allKinds(t)
	all := 0
	for h := 1; h <= b.Len(); h++ {
		held, _ := faces.Held(b, h)
		sets := []uint32{0, held, everyone}
		for range 30 {
			sets = append(sets, draw.Uint32()&held, draw.Uint32()&draw.Uint32()&everyone)
		}
		for _, set := range sets {
			ok := set&^held == 0
			if ok != (faces.Core(set)&^held == 0) || ok != (faces.Closure(set)&^held == 0) {
				t.Errorf("%d holds all of %b: %t", h, set, ok)
			}
			if ok {
				all++
			}
		}
	}
	if all == 0 {
		t.Error("no set was held whole")
	}
}

// TestP6_7Roads: the way to a face does not matter, and a road may be gone in two.
func TestP6_7Roads(t *testing.T) {
	draw := rand.New(rand.NewSource(68))
	b := allKinds(t)
	for h := range b.Len() + 1 {
		held, _ := faces.Held(b, h)
		for range 10 {
			road := drawnRoad(draw, held)
			cut := draw.Intn(len(road) + 1)
			whole, _ := faces.Road(b, h, road)
			front, _ := faces.Road(b, h, road[:cut])
			rest, _ := faces.Road(b, h, road[cut:])
			if front < cut {
				rest = 0
			}
			if whole != front+rest || whole != firstNotIn(held, road) {
				t.Errorf("%d: %v is %d, in two %d and %d", h, road, whole, front, rest)
			}
		}
	}
}
