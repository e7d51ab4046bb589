package kinds_test

import (
	"reflect"
	"runtime"
	"slices"
	"strings"
	"testing"

	"errata/api"
	"errata/kinds"
)

// face asks whether an error holds it, by both forms of the assertion.
type face struct {
	name string
	two  func(error) bool
	one  func(error) bool
}

func faceOf[F any](name string) face {
	return face{
		name: name,
		two: func(err error) bool {
			_, ok := any(err).(F)
			return ok
		},
		one: func(err error) (ok bool) {
			defer func() {
				if _, bad := recover().(runtime.Error); bad {
					ok = false
				}
			}()
			_ = any(err).(F)
			return true
		},
	}
}

func faces() []face {
	return []face{
		faceOf[error]("error"), faceOf[any]("any"),
		faceOf[api.Grader]("Grader"), faceOf[api.Coder]("Coder"), faceOf[api.Weigher]("Weigher"), faceOf[api.Phaser]("Phaser"),
		faceOf[api.Timer]("Timer"), faceOf[api.Liner]("Liner"), faceOf[api.Detailer]("Detailer"), faceOf[api.One]("One"),
		faceOf[api.Many]("Many"), faceOf[api.Judge]("Judge"), faceOf[api.Lender]("Lender"), faceOf[api.Kinder]("Kinder"),
		faceOf[api.Sizer]("Sizer"), faceOf[api.TimedError]("TimedError"), faceOf[api.CodedCause]("CodedCause"),
		faceOf[api.Whole]("Whole"), faceOf[api.Nobody]("Nobody"),
	}
}

func rowOf(err error) row {
	for _, r := range rows() {
		if reflect.TypeOf(r.sample) == reflect.TypeOf(err) {
			return r
		}
	}
	return row{}
}

func TestP4_10Faces(t *testing.T) {
	all := faces()
	for _, err := range someErrors(20) {
		r := rowOf(err)
		held := append(strings.Fields(r.faces), "error", "any")
		for _, f := range all {
			want := slices.Contains(held, f.name)
			if two, one := f.two(err), f.one(err); two != want || one != want {
				t.Errorf("%s holds %s: %t %t", r.name, f.name, two, one)
			}
		}
	}
}

// switched is the kind that a type switch finds.
func switched(err error) uint8 {
	switch err.(type) {
	case kinds.Code:
		return api.KindCode
	case kinds.Note:
		return api.KindNote
	case kinds.Level:
		return api.KindLevel
	case kinds.Sway:
		return api.KindSway
	case kinds.Mark:
		return api.KindMark
	case kinds.Tags:
		return api.KindTags
	case kinds.Lazy:
		return api.KindLazy
	case kinds.Line:
		return api.KindLine
	case *kinds.Plain:
		return api.KindPlain
	case *kinds.Quiet:
		return api.KindQuiet
	case kinds.Coded:
		return api.KindCoded
	case kinds.Bag:
		return api.KindBag
	case kinds.Hold:
		return api.KindHold
	case *kinds.Wrap:
		return api.KindWrap
	case kinds.Over:
		return api.KindOver
	case *kinds.Join:
		return api.KindJoin
	case kinds.Timed:
		return api.KindTimed
	case kinds.Placed:
		return api.KindPlaced
	case kinds.Twin:
		return api.KindTwin
	case kinds.Veil:
		return api.KindVeil
	case *kinds.Echo:
		return api.KindEcho
	case *kinds.Guise:
		return api.KindGuise
	case kinds.Box[int8], kinds.Box[float64], kinds.Box[[]uint8]:
		return api.KindBox
	case *kinds.Slow:
		return api.KindSlow
	case kinds.Full:
		return api.KindFull
	case *kinds.Opaque:
		return api.KindOpaque
	}
	return 0
}

func TestP4_10TypeSwitch(t *testing.T) {
	for _, r := range rows() {
		all := []error{made(r.least)}
		if r.isNil {
			all = append(all, made(r.nothing()))
		}
		for _, err := range all {
			if kind := switched(err); kind != r.least.Kind {
				t.Errorf("%s: a type switch finds %d", r.name, kind)
			}
			if reflect.TypeOf(err) != reflect.TypeOf(r.sample) {
				t.Errorf("%s is a %T", r.name, err)
			}
		}
	}
	for number, sample := range map[int16]error{1: kinds.Box[int8]{}, 2: kinds.Box[float64]{}, 3: kinds.Box[[]uint8]{}} {
		if err := made(api.Spec{Kind: api.KindBox, Number: number}); reflect.TypeOf(err) != reflect.TypeOf(sample) {
			t.Errorf("Box %d is a %T", number, err)
		}
	}
}

// TestP4_10Opaque: an Opaque's mask says which faces another one has, and gives it none.
func TestP4_10Opaque(t *testing.T) {
	err := made(api.Spec{Kind: api.KindOpaque, Items: []string{"n"}, Mask: 1<<32 - 1})
	for _, f := range faces() {
		if want := strings.Contains(" error any Many ", " "+f.name+" "); f.two(err) != want {
			t.Errorf("an Opaque holds %s: %t", f.name, !want)
		}
	}
}
