package faces

// What no error of a book shows is shown here of others: that no method is called, and what holds the faces that no kind has.

import (
	"reflect"
	"testing"

	"errata/api"
)

// Each mute has just the methods of the face of its name, none of which may be called.
type (
	muteError    struct{}
	muteGrader   struct{}
	muteCoder    struct{}
	muteWeigher  struct{}
	mutePhaser   struct{}
	muteTimer    struct{}
	muteLiner    struct{}
	muteDetailer struct{}
	muteOne      struct{}
	muteMany     struct{}
	muteJudge    struct{}
	muteLender   struct{}
	muteKinder   struct{}
	muteSizer    struct{}
	muteNobody   struct{}
	muteAny      struct{}
	muteTimed    struct {
		muteError
		muteTimer
	}
	muteCause struct {
		muteOne
		muteCoder
	}
	muteWhole struct {
		muteError
		muteGrader
		muteWeigher
		muteTimer
	}
)

func (muteError) Error() string        { panic("Error") }
func (muteGrader) Grade() int8         { panic("Grade") }
func (muteCoder) Code() int16          { panic("Code") }
func (muteWeigher) Weight() float64    { panic("Weight") }
func (mutePhaser) Phase() complex128   { panic("Phase") }
func (muteTimer) Timeout() bool        { panic("Timeout") }
func (muteLiner) Line() int16          { panic("Line") }
func (muteDetailer) Details() []string { panic("Details") }
func (muteOne) Unwrap() error          { panic("Unwrap") }
func (muteMany) Unwrap() []error       { panic("Unwrap") }
func (muteJudge) Is(error) bool        { panic("Is") }
func (muteLender) As(any) bool         { panic("As") }
func (muteKinder) Kind() uint8         { panic("Kind") }
func (muteSizer) Len() int             { panic("Len") }
func (muteNobody) Never()              { panic("Never") }

// mutes has at n - 1 one that has just the methods of the face n.
func mutes() []any {
	return []any{
		muteError{}, muteGrader{}, muteCoder{}, muteWeigher{}, mutePhaser{}, muteTimer{}, muteLiner{}, muteDetailer{}, muteOne{}, muteMany{},
		muteJudge{}, muteLender{}, muteKinder{}, muteSizer{}, muteTimed{}, muteCause{}, muteWhole{}, muteNobody{}, muteAny{},
	}
}

// TestP6_5HeldByMethods: what has just the methods of a face holds just what follows from it.
func TestP6_5HeldByMethods(t *testing.T) {
	for i, mute := range mutes() {
		if held := heldBy(mute); held != Closure(2<<i) {
			t.Errorf("%T holds %b, not %b", mute, held, Closure(2<<i))
		}
		for face := firstFace; face <= lastFace; face++ {
			follows, e := Follows(uint8(i+1), face)
			made, ok := asserted(mute, face)
			if e != api.OK || ok != follows || ok && made != mute || !ok && made != nil {
				t.Errorf("%T to %d: %v %t", mute, face, made, ok)
			}
			p, e := panicOf(mute, face)
			if e != api.OK || (p == api.Panic{}) != ok || !ok && p != (api.Panic{Sort: api.RuntimePanic}) {
				t.Errorf("%T to %d: %v %d", mute, face, p, e)
			}
		}
	}
}

// TestP6_5Types: the methods are those that the face's type has.
func TestP6_5Types(t *testing.T) {
	types := []reflect.Type{
		reflect.TypeFor[error](), reflect.TypeFor[api.Grader](), reflect.TypeFor[api.Coder](), reflect.TypeFor[api.Weigher](), reflect.TypeFor[api.Phaser](),
		reflect.TypeFor[api.Timer](), reflect.TypeFor[api.Liner](), reflect.TypeFor[api.Detailer](), reflect.TypeFor[api.One](), reflect.TypeFor[api.Many](),
		reflect.TypeFor[api.Judge](), reflect.TypeFor[api.Lender](), reflect.TypeFor[api.Kinder](), reflect.TypeFor[api.Sizer](), reflect.TypeFor[api.TimedError](),
		reflect.TypeFor[api.CodedCause](), reflect.TypeFor[api.Whole](), reflect.TypeFor[api.Nobody](), reflect.TypeFor[any](),
	}
	for i, one := range types {
		for j, other := range types {
			if follows, e := Follows(uint8(i+1), uint8(j+1)); follows != one.Implements(other) || e != api.OK {
				t.Errorf("Follows(%v, %v): %t %d", one, other, follows, e)
			}
		}
		if name := nameOf(uint8(i + 1)); one.Name() != name && one != reflect.TypeFor[any]() {
			t.Errorf("%v is told as %s", one, name)
		}
	}
}

func TestP6_3RoadOfMethods(t *testing.T) {
	if n := road(muteWhole{}, []uint8{api.FaceWhole, api.FaceTimedError, api.FaceWeigher, api.FaceWhole, api.FaceCoder, api.FaceAny}); n != 4 {
		t.Error("a road of a Whole:", n)
	}
	if n := road(muteNobody{}, []uint8{api.FaceAny, api.FaceNobody, api.FaceError}); n != 2 {
		t.Error("a road of a Nobody:", n)
	}
}

// TestP6_1NoFace: a number that is no face's is held by nothing, and is told as ErrFace.
func TestP6_1NoFace(t *testing.T) {
	for n := 20; n <= 256; n++ {
		for _, x := range append(mutes(), nil) {
			made, ok := asserted(x, uint8(n))
			p, e := panicOf(x, uint8(n))
			if made != nil || ok || p != (api.Panic{}) || e != api.ErrFace {
				t.Errorf("%d: %v %t %v %d", n, made, ok, p, e)
			}
		}
	}
}
