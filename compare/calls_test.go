package compare

// What no error of a book shows is shown here of another one: that no method is called.

import (
	"testing"

	"errata/api"
	"errata/book"
	"errata/kinds"
)

// mute has methods of which none may be called.
type mute struct{ number int }

func (mute) Error() string { panic("Error") }
func (mute) Is(error) bool { panic("Is") }
func (mute) As(any) bool   { panic("As") }
func (mute) Unwrap() error { panic("Unwrap") }
func (mute) Kind() uint8   { panic("Kind") }
func (mute) Len() int      { panic("Len") }

func TestP7_1NoMethod(t *testing.T) {
	x, y := mute{1}, mute{2}
	for i, outcome := range []int{two(x, x), four([4]error{x}, [4]error{x}), rows([]error{x}, []error{x})} {
		if outcome != api.Same || !isSteady(x) || !canCompare(x) {
			t.Errorf("%d: what is mute is unlike itself: %d", i, outcome)
		}
	}
	if two(x, y) != api.Unlike {
		t.Error("two that are mute are the Same")
	}
	s := Set{in: map[error]struct{}{x: {}}}
	if !s.has(x) || s.has(y) {
		t.Error("what is mute is not in, or another one is")
	}
}

// TestP7_1NotMade: a Slow is made by the first call of its Error, and nothing here is one.
func TestP7_1NotMade(t *testing.T) {
	b := book.New()
	h, _ := b.Make(api.Spec{Kind: api.KindSlow, Text: "s"})
	held, _ := b.Make(api.Spec{Kind: api.KindOver, Parts: []int{h}})
	veiled, _ := b.Make(api.Spec{Kind: api.KindVeil, Parts: []int{held}})
	s, _ := New(b)
	for _, x := range []int{h, held, veiled} {
		Two(b, x, x)
		Four(b, [4]int{x}, [4]int{x})
		Rows(b, []int{x}, []int{x})
		Seek(b, x, []int{h, held, veiled})
		ByType(b, x)
		Nothing(b, x)
		Classes(b, []int{x, h})
		s.Put(x)
		s.Has(x)
		s.Drop(x)
	}
	err, _ := b.Error(h)
	if slow, ok := err.(*kinds.Slow); !ok || slow.Made() {
		t.Error("no Slow, or its Error was called")
	}
}
