package kindof_test

import (
	"testing"

	"errata/api"
	"errata/kindof"
	"errata/kinds"
)

// mute is of no kind, and its method may not be called.
type mute struct{}

func (mute) Error() string { panic("Error") }

func TestP4_10Types(t *testing.T) {
	for _, s := range []api.Spec{
		{Kind: 1}, {Kind: 2}, {Kind: 3}, {Kind: 4}, {Kind: 5, Text: "mark"}, {Kind: 6}, {Kind: 7, Flag: true}, {Kind: 8}, {Kind: 9}, {Kind: 10}, {Kind: 11},
		{Kind: 12}, {Kind: 13}, {Kind: 14}, {Kind: 15}, {Kind: 16}, {Kind: 17}, {Kind: 18}, {Kind: 19}, {Kind: 20}, {Kind: 21, Flag: true}, {Kind: 22},
		{Kind: 23, Number: 1}, {Kind: 23, Number: 2}, {Kind: 23, Number: 3}, {Kind: 24, Flag: true}, {Kind: 25}, {Kind: 26, Items: []string{"name"}},
		{Kind: 6, Nil: true}, {Kind: 7, Nil: true}, {Kind: 8, Nil: true}, {Kind: 9, Nil: true}, {Kind: 10, Nil: true}, {Kind: 14, Nil: true}, {Kind: 16, Nil: true},
		{Kind: 21, Nil: true}, {Kind: 22, Nil: true}, {Kind: 23, Number: 3, Nil: true}, {Kind: 24, Nil: true}, {Kind: 26, Nil: true},
	} {
		err, e := kinds.Make(s, nil)
		if e != api.OK {
			t.Fatalf("Make(%v): %d", s, e)
		}
		if kind := kindof.Error(err); kind != s.Kind {
			t.Errorf("%v is told as of kind %d", s, kind)
		}
	}
}

func TestP4_10NoKind(t *testing.T) {
	for _, err := range []error{nil, mute{}, &mute{}, api.ErrArg, kinds.Box[string]{}, new(kinds.Code)} {
		if kind := kindof.Error(err); kind != 0 {
			t.Errorf("%T is told as of kind %d", err, kind)
		}
	}
}
