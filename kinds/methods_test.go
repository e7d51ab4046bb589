package kinds_test

import (
	"errors"
	"math"
	"math/rand"
	"reflect"
	"slices"
	"strings"
	"testing"

	"errata/api"
	"errata/kinds"
	"errata/text"
)

// TestP4_4Methods holds the methods of each type, and of its pointer, against the chapter's words.
func TestP4_4Methods(t *testing.T) {
	for _, x := range []struct {
		of       any
		own      string // of the type
		pointers string // of its pointer alone
	}{
		{kinds.Code(0), "Error Grade Kind", ""},
		{kinds.Note(""), "Error Kind", ""},
		{kinds.Level(0), "Error Kind Weight", ""},
		{kinds.Sway(0), "Error Phase", ""},
		{kinds.Mark{}, "Error", ""},
		{kinds.Tags{}, "Error Len", ""},
		{kinds.Lazy(nil), "Error", ""},
		{kinds.Line(nil), "Error", ""},
		{kinds.Plain{}, "", "Error"},
		{kinds.Quiet{}, "", "Error Timeout"},
		{kinds.Coded{}, "Code Error Grade", ""},
		{kinds.Bag{}, "Details Error", ""},
		{kinds.Hold{}, "Error Held", ""},
		{kinds.Wrap{}, "", "Error Unwrap"},
		{kinds.Over{}, "Error Unwrap", ""},
		{kinds.Join{}, "", "Error Unwrap"},
		{kinds.Timed{}, "Error Timeout", ""},
		{kinds.Placed{}, "Error Line", ""},
		{kinds.Twin{}, "Error Grade Weight", ""},
		{kinds.Veil{}, "Error", ""},
		{kinds.Echo{}, "", "Error Is"},
		{kinds.Guise{}, "", "As Error"},
		{kinds.Box[int8]{}, "Error Item", ""},
		{kinds.Box[string]{}, "Error Item", ""},
		{reflect.New(reflect.TypeFor[kinds.Slow]()).Elem(), "", "Error Made"},
		{kinds.Full{}, "Code Error Grade Unwrap", ""},
		{kinds.Opaque{}, "", "Error Mask Name Unwrap"},
	} {
		typ := reflect.TypeOf(x.of)
		if v, ok := x.of.(reflect.Value); ok {
			typ = v.Type()
		}
		pointers := x.pointers
		if pointers == "" {
			pointers = x.own
		}
		if own, all := methods(typ), methods(reflect.PointerTo(typ)); own != x.own || all != pointers {
			t.Errorf("%v has %q, its pointer %q", typ, own, all)
		}
	}
}

func methods(typ reflect.Type) string {
	var names []string
	for i := range typ.NumMethod() {
		names = append(names, typ.Method(i).Name)
	}
	return strings.Join(names, " ")
}

func TestP4_5Examples(t *testing.T) {
	nan, minus0 := math.NaN(), math.Copysign(0, -1)
	n := note("n")
	for _, x := range []struct {
		s     api.Spec
		parts []error
		text  string
	}{
		{api.Spec{Kind: 1, Number: 300}, nil, "code 300"},
		{api.Spec{Kind: 1, Number: -32768}, nil, "code -32768"},
		{api.Spec{Kind: 1}, nil, "code 0"},
		{api.Spec{Kind: 2, Text: "any \xff\n"}, nil, "any \xff\n"},
		{api.Spec{Kind: 3, Re: nan}, nil, "level NaN"},
		{api.Spec{Kind: 3, Re: 1}, nil, "level 1.0"},
		{api.Spec{Kind: 3, Re: minus0}, nil, "level -0.0"},
		{api.Spec{Kind: 3, Re: 1e6}, nil, "level 1e+06"},
		{api.Spec{Kind: 4, Re: 1, Im: -2}, nil, "sway (1.0-2.0i)"},
		{api.Spec{Kind: 4, Re: nan, Im: nan}, nil, "sway (NaN+NaNi)"},
		{api.Spec{Kind: 4, Re: minus0, Im: math.Inf(1)}, nil, "sway (-0.0+Infi)"},
		{api.Spec{Kind: 5, Text: "\x00\x9f\xa0\xff"}, nil, "mark 009fa0ff"},
		{api.Spec{Kind: 6, Items: []string{"b", "a", "b"}, Number: 7}, nil, "tags a=8 b=9"},
		{api.Spec{Kind: 6}, nil, "tags"},
		{api.Spec{Kind: 6, Number: 9}, nil, "tags"},
		{api.Spec{Kind: 6, Items: []string{""}, Number: -1}, nil, "tags =-1"},
		{api.Spec{Kind: 6, Items: []string{"x", "y", "z"}, Number: 32766}, nil, "tags x=32766 y=32767 z=-32768"},
		{api.Spec{Kind: 6, Items: []string{"x", "y", "x"}, Number: 32767}, nil, "tags x=-32767 y=-32768"},
		{api.Spec{Kind: 6, Items: []string{"x", "y"}, Number: -32768}, nil, "tags x=-32768 y=-32767"},
		{api.Spec{Kind: 6, Items: []string{"b", "\xff", "B", "ba", "é", "a b"}}, nil, "tags B=2 a b=5 b=0 ba=3 é=4 \xff=1"},
		{api.Spec{Kind: 7, Text: "lazy"}, nil, "lazy"},
		{api.Spec{Kind: 8}, nil, "line"},
		{api.Spec{Kind: 9, Text: "p"}, nil, "p"},
		{api.Spec{Kind: 10, Text: "q", Flag: true}, nil, "q"},
		{api.Spec{Kind: 10}, nil, ""},
		{api.Spec{Kind: 11, Number: 5, Text: "c"}, nil, "c"},
		{api.Spec{Kind: 12, Text: "b", Items: []string{"i"}}, nil, "b"},
		{api.Spec{Kind: 13, Text: "h"}, []error{n}, "h"},
		{api.Spec{Kind: 14, Text: "w"}, []error{n}, "w: n"},
		{api.Spec{Kind: 14, Text: "w"}, []error{nil}, "w"},
		{api.Spec{Kind: 14, Text: "w"}, nil, "w"},
		{api.Spec{Kind: 14}, []error{note("")}, ": "},
		{api.Spec{Kind: 15, Text: "o"}, []error{wrap("w", n)}, "o: w: n"},
		{api.Spec{Kind: 15, Text: "o"}, nil, "o"},
		{api.Spec{Kind: 16}, []error{n, nil, note(""), nil, note("m\n")}, "n\n\nm\n"},
		{api.Spec{Kind: 16}, []error{nil, nil}, ""},
		{api.Spec{Kind: 16}, []error{n}, "n"},
		{api.Spec{Kind: 16}, nil, ""},
		{api.Spec{Kind: 17}, []error{n}, "n"},
		{api.Spec{Kind: 18, Number: 3}, []error{plain("p")}, "p"},
		{api.Spec{Kind: 19, Number: -3, Re: 0.5}, nil, "twin -3 0.5"},
		{api.Spec{Kind: 20}, []error{n}, "veil: n"},
		{api.Spec{Kind: 20}, nil, "veil"},
		{api.Spec{Kind: 21, Text: "e", Flag: true}, nil, "e"},
		{api.Spec{Kind: 22, Text: "g", Number: 4}, nil, "g"},
		{api.Spec{Kind: 23, Number: 1, Small: -128}, nil, "box -128"},
		{api.Spec{Kind: 23, Number: 2, Re: 3}, nil, "box 3.0"},
		{api.Spec{Kind: 23, Number: 2, Re: nan}, nil, "box NaN"},
		{api.Spec{Kind: 23, Number: 3, Text: "b\xff"}, nil, "box b\xff"},
		{api.Spec{Kind: 23, Number: 3}, nil, "box "},
		{api.Spec{Kind: 24, Text: "s"}, nil, "s"},
		{api.Spec{Kind: 25, Number: 5, Text: "t"}, nil, "full: t"},
		{api.Spec{Kind: 25, Number: 5, Text: "t"}, []error{wrap("w", n)}, "full: t"},
		{api.Spec{Kind: 26, Text: "t", Mask: 7, Items: []string{"name"}}, []error{n}, "t"},
	} {
		sayTold(t, "an example", made(x.s, x.parts...), x.text, noPanic)
	}
}

func TestP4_5Drawn(t *testing.T) {
	draw := rand.New(rand.NewSource(5))
	for _, r := range rows() {
		for range 200 {
			s, parts := r.drawn(draw)
			text, p := told(s, parts)
			err := made(s, parts...)
			sayTold(t, r.name, err, text, p)
			sayTold(t, r.name+" again", err, text, p)
		}
	}
}

func TestP4_5Panics(t *testing.T) {
	for _, r := range rows() {
		if r.isNil {
			text, p := toldOfNothing(r.least.Kind)
			sayTold(t, "a nil "+r.name, made(r.nothing()), text, p)
		}
	}
	for _, word := range []string{"", "gone"} {
		sayTold(t, "a Lazy", made(api.Spec{Kind: 7, Text: word, Flag: true}), "", own(word))
		sayTold(t, "a Slow", made(api.Spec{Kind: 24, Text: word, Flag: true}), "", own(word))
	}
	sayTold(t, "a Timed without an error", made(api.Spec{Kind: 17, Flag: true}), "", atRuntime)
	sayTold(t, "a Timed about no error", made(api.Spec{Kind: 17}, nil), "", atRuntime)
	sayTold(t, "a Placed without a Plain", made(api.Spec{Kind: 18}), "", atRuntime)
	sayTold(t, "a Placed with a nil Plain", made(api.Spec{Kind: 18}, (*kinds.Plain)(nil)), "", atRuntime)
}

// TestP4_5PanicsOfParts: where the Error of a part panics, that is the panic; what tells nothing of a part does not ask it.
func TestP4_5PanicsOfParts(t *testing.T) {
	first := made(api.Spec{Kind: 7, Text: "first", Flag: true})
	second := made(api.Spec{Kind: 24, Text: "second", Flag: true})
	nothing := made(api.Spec{Kind: 9, Nil: true})
	for _, kind := range []uint8{14, 15, 17, 20} {
		sayTold(t, "about what panics", made(api.Spec{Kind: kind}, first), "", own("first"))
		sayTold(t, "about what panics each time", made(api.Spec{Kind: kind}, second), "", own("second"))
		sayTold(t, "about a nothing", made(api.Spec{Kind: kind}, nothing), "", atRuntime)
		sayTold(t, "about a wrapped one", made(api.Spec{Kind: kind}, wrap("w", first)), "", own("first"))
	}
	sayTold(t, "a Join", made(api.Spec{Kind: 16}, nil, note("n"), first, nothing), "", own("first"))
	sayTold(t, "a Join", made(api.Spec{Kind: 16}, nothing, first), "", atRuntime)
	sayTold(t, "a Join", made(api.Spec{Kind: 16}, second, first), "", own("second"))
	sayTold(t, "a Hold", made(api.Spec{Kind: 13, Text: "h"}, first), "h", noPanic)
	sayTold(t, "an Opaque", made(api.Spec{Kind: 26, Text: "o", Items: []string{"n"}}, first), "o", noPanic)
	sayTold(t, "a Full", made(api.Spec{Kind: 25, Text: "f"}, (*kinds.Wrap)(nil)), "full: f", noPanic)
}

func TestP4_6Numbers(t *testing.T) {
	for n := math.MinInt16; n <= math.MaxInt16; n++ {
		number := int16(n)
		c := made(api.Spec{Kind: 1, Number: number}).(kinds.Code)
		d := made(api.Spec{Kind: 11, Number: number}).(kinds.Coded)
		if low := text.Low(number); c.Grade() != low || d.Grade() != low || d.Code() != number || c.Kind() != 1 {
			t.Fatalf("%d: grades %d %d, code %d, kind %d", n, c.Grade(), d.Grade(), d.Code(), c.Kind())
		}
	}
	if g := made(api.Spec{Kind: 1, Number: 300}).(api.Grader).Grade(); g != 44 {
		t.Error("Grade of 300:", g)
	}
	if k := note("n").(kinds.Note).Kind(); k != 2 {
		t.Error("Kind of a Note:", k)
	}
	if k := made(api.Spec{Kind: 3}).(kinds.Level).Kind(); k != 3 {
		t.Error("Kind of a Level:", k)
	}
}

func TestP4_6Floats(t *testing.T) {
	for _, x := range []float64{0, math.Copysign(0, -1), 1.5, math.Inf(-1), math.NaN(), math.SmallestNonzeroFloat64} {
		l := made(api.Spec{Kind: 3, Re: x}).(kinds.Level)
		w := made(api.Spec{Kind: 19, Re: x}).(kinds.Twin)
		p := made(api.Spec{Kind: 4, Re: x, Im: -x}).(kinds.Sway).Phase()
		b := made(api.Spec{Kind: 23, Number: 2, Re: x}).(kinds.Box[float64])
		for i, y := range []float64{l.Weight(), w.Weight(), real(p), -imag(p), b.Item()} {
			if math.Float64bits(x) != math.Float64bits(y) && (x == x || y == y) {
				t.Errorf("answer %d of %v: %v", i, x, y)
			}
		}
	}
}

func TestP4_6Answers(t *testing.T) {
	for i, n := range []int{
		made(api.Spec{Kind: 6, Items: []string{"b", "a", "b"}}).(kinds.Tags).Len(),
		made(api.Spec{Kind: 6}).(kinds.Tags).Len(),
		made(api.Spec{Kind: 6, Nil: true}).(kinds.Tags).Len(),
		int(made(api.Spec{Kind: 18, Number: -32768}).(kinds.Placed).Line()),
		int(made(api.Spec{Kind: 19, Number: 300}).(kinds.Twin).Grade()),
		int(made(api.Spec{Kind: 25, Number: 5, Text: "t"}).(kinds.Full).Code()),
		int(made(api.Spec{Kind: 25, Number: -129}).(kinds.Full).Grade()),
		int(made(api.Spec{Kind: 23, Number: 1, Small: -7}).(kinds.Box[int8]).Item()),
		int(made(api.Spec{Kind: 26, Items: []string{"n"}, Mask: 1<<32 - 1}).(*kinds.Opaque).Mask()),
	} {
		if want := []int{2, 0, 0, -32768, 44, 5, 127, -7, 1<<32 - 1}[i]; n != want {
			t.Errorf("number %d: %d, not %d", i, n, want)
		}
	}
	for _, long := range []bool{false, true} {
		if q := made(api.Spec{Kind: 10, Flag: long}).(*kinds.Quiet); q.Timeout() != long {
			t.Error("Timeout of a Quiet:", !long)
		}
		if x := made(api.Spec{Kind: 17, Flag: long}).(kinds.Timed); x.Timeout() != long {
			t.Error("Timeout of a Timed:", !long)
		}
	}
	if o := made(api.Spec{Kind: 26, Items: []string{"name"}, Text: "t"}).(*kinds.Opaque); o.Name() != "name" || o.Mask() != 0 || len(o.Unwrap()) != 0 {
		t.Error("Opaque:", o.Name(), o.Mask(), o.Unwrap())
	}
	if l := made(api.Spec{Kind: 12, Items: []string{"b", "", "b"}}).(kinds.Bag).Details(); !slices.Equal(l, []string{"b", "", "b"}) {
		t.Errorf("Details: %q", l)
	}
	if l := made(api.Spec{Kind: 12}).(kinds.Bag).Details(); len(l) != 0 {
		t.Errorf("Details: %q", l)
	}
}

func TestP4_6Causes(t *testing.T) {
	nothing := made(api.Spec{Kind: 9, Nil: true})
	for _, part := range []error{nil, mute{}, nothing, said("p"), plain("x")} {
		if c := wrap("w", part).Unwrap(); c != part {
			t.Errorf("a Wrap's cause: %T, not %T", c, part)
		}
		if c := made(api.Spec{Kind: 15}, part).(kinds.Over).Unwrap(); c != part {
			t.Errorf("an Over's cause: %T, not %T", c, part)
		}
		if c := made(api.Spec{Kind: 25}, wrap("w", part)).(kinds.Full).Unwrap(); c != part {
			t.Errorf("a Full's cause: %T, not %T", c, part)
		}
		if h := made(api.Spec{Kind: 13}, part).(kinds.Hold).Held(); h != any(part) {
			t.Errorf("held: %T, not %T", h, part)
		}
	}
	if h := made(api.Spec{Kind: 13}).(kinds.Hold).Held(); h != nil {
		t.Errorf("held: %T", h)
	}
	parts := []error{nil, mute{}, nothing, nil, said("p"), said("p")}
	for _, s := range []api.Spec{{Kind: 16}, {Kind: 26, Items: []string{"n"}}} {
		if l := made(s, parts...).(api.Many).Unwrap(); !slices.Equal(l, parts) {
			t.Errorf("parts: %v", l)
		}
	}
}

func TestP4_6NilPointers(t *testing.T) {
	for i, ask := range []func() any{
		func() any { return (*kinds.Plain)(nil).Error() },
		func() any { return (*kinds.Wrap)(nil).Error() },
		func() any { return (*kinds.Wrap)(nil).Unwrap() },
		func() any { return (*kinds.Join)(nil).Error() },
		func() any { return (*kinds.Join)(nil).Unwrap() },
		func() any { return (*kinds.Echo)(nil).Error() },
		func() any { return (*kinds.Echo)(nil).Is(said("x")) },
		func() any { return (*kinds.Echo)(nil).Is(mute{}) },
		func() any { return (*kinds.Guise)(nil).Error() },
		func() any { return (*kinds.Guise)(nil).As(new(kinds.Coded)) },
		func() any { return (*kinds.Guise)(nil).As(new(api.Coder)) },
		func() any { return (*kinds.Guise)(nil).As(new(int)) },
		func() any { return (*kinds.Guise)(nil).As(nil) },
		func() any { return (*kinds.Slow)(nil).Error() },
		func() any { return (*kinds.Opaque)(nil).Error() },
		func() any { return (*kinds.Opaque)(nil).Unwrap() },
		func() any { return (*kinds.Opaque)(nil).Name() },
		func() any { return (*kinds.Opaque)(nil).Mask() },
		func() any { return made(api.Spec{Kind: 25}).(kinds.Full).Unwrap() },
		func() any { return made(api.Spec{Kind: 25}, (*kinds.Wrap)(nil)).(kinds.Full).Unwrap() },
		func() any { return made(api.Spec{Kind: 18}, (*kinds.Plain)(nil)).(kinds.Placed).Error() },
		func() any { return made(api.Spec{Kind: 7, Nil: true}).Error() },
	} {
		if x, p := asked(ask); x != nil || p != atRuntime {
			t.Errorf("nil pointer %d: %v %v", i, x, p)
		}
	}
	if q := (*kinds.Quiet)(nil); q.Error() != "quiet" || q.Timeout() {
		t.Error("a nil Quiet:", q.Error(), q.Timeout())
	}
	if (*kinds.Slow)(nil).Made() {
		t.Error("a nil Slow was made")
	}
	if f := made(api.Spec{Kind: 25, Number: 5, Text: "t"}).(kinds.Full); f.Error() != "full: t" || f.Code() != 5 {
		t.Error("a Full without a Wrap:", f.Error(), f.Code())
	}
	if p := made(api.Spec{Kind: 18, Number: 4}, (*kinds.Plain)(nil)).(kinds.Placed); p.Line() != 4 {
		t.Error("a Placed with a nil Plain:", p.Line())
	}
}

// counted is an error that counts how often its Error is asked.
type counted struct {
	text  string
	times *int
}

func (c counted) Error() string {
	*c.times++
	return c.text
}

func TestP4_7Is(t *testing.T) {
	for _, x := range []struct {
		own, text string
		is        bool
	}{
		{"w", "w: n", true}, {"w: n", "w: n", true}, {"w: n!", "w: n", false}, {"n", "w: n", false},
		{"", "", true}, {"", "x", true}, {"x", "", false}, {"\xc3", "é", true}, {"W", "w", false},
	} {
		times := 0
		echo := made(api.Spec{Kind: 21, Text: x.own}).(*kinds.Echo)
		if is := echo.Is(counted{x.text, &times}); is != x.is || times != 1 {
			t.Errorf("%q of %q: %t, asked %d times", x.own, x.text, is, times)
		}
		harsh := made(api.Spec{Kind: 21, Text: x.own, Flag: true}).(*kinds.Echo)
		for _, target := range []error{counted{x.text, &times}, nil, mute{}, harsh} {
			if is, p := asked(func() bool { return harsh.Is(target) }); is || p != own(x.own) || times != 1 {
				t.Errorf("harsh %q of %T: %t %v, asked %d times", x.own, target, is, p, times)
			}
		}
		if is, p := asked(func() bool { return echo.Is(nil) }); is || p != atRuntime {
			t.Errorf("%q of no target: %t %v", x.own, is, p)
		}
	}
	echo := made(api.Spec{Kind: 21, Text: "a"}).(*kinds.Echo)
	for target, p := range map[error]api.Panic{
		made(api.Spec{Kind: 24, Text: "gone", Flag: true}): own("gone"),
		made(api.Spec{Kind: 9, Nil: true}):                 atRuntime,
		made(api.Spec{Kind: 17}):                           atRuntime,
	} {
		if is, q := asked(func() bool { return echo.Is(target) }); is || q != p {
			t.Errorf("a target that panics: %t %v", is, q)
		}
	}
}

func TestP4_7As(t *testing.T) {
	guise := made(api.Spec{Kind: 22, Text: "g", Number: -5}).(*kinds.Guise)
	lent := made(api.Spec{Kind: 11, Text: "g", Number: -5}).(kinds.Coded)
	coded := kinds.Coded{}
	if !guise.As(&coded) || coded != lent {
		t.Error("a *Coded is given", coded)
	}
	var coder api.Coder
	if !guise.As(&coder) || coder != api.Coder(lent) {
		t.Errorf("an *api.Coder is given %v", coder)
	}
	coded, coder = kinds.Coded{}, nil
	if !errors.As(error(guise), &coded) || coded != lent || !errors.As(error(guise), &coder) || coder.Code() != -5 {
		t.Error("errors.As is lent", coded, coder)
	}
	n := 7
	anything := any("kept")
	var whole error = said("kept")
	var grader api.Grader
	other := kinds.Coded{}
	twice := &other
	for _, target := range []any{nil, &n, n, "x", &anything, &whole, &grader, other, lent, coder, guise, &guise, &twice, (*int)(nil), new(kinds.Code), new(*kinds.Coded), struct{}{}} {
		if is, p := asked(func() bool { return guise.As(target) }); is || p != noPanic {
			t.Errorf("As of %T: %t %v", target, is, p)
		}
	}
	if n != 7 || anything != "kept" || whole != error(said("kept")) || grader != nil || other != (kinds.Coded{}) || twice != &other {
		t.Error("what was refused is changed")
	}
	for _, target := range []any{(*kinds.Coded)(nil), (*api.Coder)(nil)} {
		if is, p := asked(func() bool { return guise.As(target) }); is || p != atRuntime {
			t.Errorf("As of a nil %T: %t %v", target, is, p)
		}
	}
}
