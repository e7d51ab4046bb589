package kinds_test

import (
	"math"
	"testing"

	"errata/api"
	"errata/kinds"
)

type ownSmall int8

type ownBytes []uint8

func TestP4_8Texts(t *testing.T) {
	p, w := plain("p"), wrap("w", note("n"))
	for _, x := range []struct {
		err  error
		text string
	}{
		{kinds.Code(3), "code 3"}, {kinds.Note("n"), "n"}, {kinds.Level(0.5), "level 0.5"}, {kinds.Level(math.NaN()), "level NaN"},
		{kinds.Sway(complex(0, 1)), "sway (0.0+1.0i)"}, {kinds.Mark{}, "mark 00000000"}, {kinds.Mark{1, 0x23, 0xAB, 0xFF}, "mark 0123abff"},
		{kinds.Tags{}, "tags"}, {kinds.Lazy(func() string { return "l" }), "l"},
		{kinds.Line(nil), "line"}, {make(kinds.Line, 3), "line"},
		{new(kinds.Plain), ""}, {new(kinds.Quiet), ""}, {kinds.Coded{}, ""}, {kinds.Bag{}, ""}, {kinds.Hold{}, ""},
		{new(kinds.Wrap), ""}, {kinds.Over{}, ""}, {new(kinds.Join), ""},
		{kinds.Placed{Plain: p}, "p"}, {kinds.Placed{Plain: new(kinds.Plain)}, ""},
		{kinds.Twin{}, "twin 0 0.0"}, {kinds.Twin{Code: -2, Level: 3}, "twin -2 3.0"}, {kinds.Veil{}, "veil"},
		{new(kinds.Echo), ""}, {new(kinds.Guise), ""}, {new(kinds.Opaque), ""},
		{kinds.Box[int8]{}, "box 0"}, {kinds.Box[float64]{}, "box 0.0"}, {kinds.Box[[]uint8]{}, "box "},
		{kinds.Box[string]{}, "box"}, {kinds.Box[any]{}, "box"}, {kinds.Box[error]{}, "box"}, {kinds.Box[struct{}]{}, "box"},
		{kinds.Box[ownSmall]{}, "box"}, {kinds.Box[ownBytes]{}, "box"}, {kinds.Box[[]int8]{}, "box"}, {kinds.Box[int16]{}, "box"},
		{kinds.Box[float32]{}, "box"}, {kinds.Box[kinds.Level]{}, "box"}, {kinds.Box[kinds.Box[int8]]{}, "box"}, {kinds.Box[func()]{}, "box"},
		{kinds.Full{}, "full: "}, {kinds.Full{Wrap: w, Coded: made(api.Spec{Kind: 11, Text: "c"}).(kinds.Coded)}, "full: c"},
	} {
		sayTold(t, "made by hand", x.err, x.text, noPanic)
	}
}

func TestP4_8Panics(t *testing.T) {
	for _, err := range []error{kinds.Lazy(nil), kinds.Timed{}, &kinds.Timed{}, kinds.Placed{}, &kinds.Placed{}, (*kinds.Coded)(nil), (*kinds.Code)(nil)} {
		sayTold(t, "made by hand", err, "", atRuntime)
	}
	sayTold(t, "a Lazy that panics", kinds.Lazy(func() string { panic(kinds.Note("x")) }), "", own("x"))
	if c, p := asked(kinds.Full{}.Unwrap); c != nil || p != atRuntime {
		t.Error("Unwrap of a bare Full:", c, p)
	}
}

func TestP4_8Answers(t *testing.T) {
	if kinds.Code(300).Grade() != 44 || kinds.Code(3).Kind() != 1 || kinds.Note("").Kind() != 2 || kinds.Level(1).Kind() != 3 || kinds.Level(1).Weight() != 1 {
		t.Error("Code, Note, Level")
	}
	if kinds.Sway(2i).Phase() != 2i || (kinds.Tags{}).Len() != 0 || new(kinds.Quiet).Timeout() || (kinds.Timed{}).Timeout() || (kinds.Placed{}).Line() != 0 {
		t.Error("Sway, Tags, Quiet, Timed, Placed")
	}
	if (kinds.Coded{}).Code() != 0 || (kinds.Coded{}).Grade() != 0 || len(kinds.Bag{}.Details()) != 0 || (kinds.Hold{}).Held() != nil {
		t.Error("Coded, Bag, Hold")
	}
	if new(kinds.Wrap).Unwrap() != nil || (kinds.Over{}).Unwrap() != nil || len(new(kinds.Join).Unwrap()) != 0 || len(new(kinds.Opaque).Unwrap()) != 0 {
		t.Error("Wrap, Over, Join, Opaque")
	}
	if (kinds.Twin{Code: 300}).Grade() != 44 || (kinds.Twin{Level: 2}).Weight() != 2 || (kinds.Full{}).Code() != 0 || (kinds.Full{}).Grade() != 0 {
		t.Error("Twin, Full")
	}
	if (kinds.Box[string]{}).Item() != "" || (kinds.Box[any]{}).Item() != nil || (kinds.Box[int8]{}).Item() != 0 || (kinds.Box[ownBytes]{}).Item() != nil || (kinds.Box[error]{}).Item() != nil {
		t.Error("Box")
	}
	if new(kinds.Opaque).Name() != "" || new(kinds.Opaque).Mask() != 0 || !new(kinds.Echo).Is(said("x")) {
		t.Error("Opaque, Echo")
	}
	coded := made(api.Spec{Kind: 11, Number: 1, Text: "x"}).(kinds.Coded)
	if !new(kinds.Guise).As(&coded) || coded != (kinds.Coded{}) {
		t.Error("Guise:", coded)
	}
	if f := (kinds.Full{Wrap: wrap("w", said("c"))}); f.Unwrap() != error(said("c")) {
		t.Error("Full:", f.Unwrap())
	}
}
