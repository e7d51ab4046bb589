package kinds_test

import (
	"fmt"
	"math"
	"math/rand"
	"reflect"
	"runtime"
	"slices"
	"strings"
	"testing"

	"errata/api"
	"errata/kinds"
	"errata/value"
)

// What the tests hold package kinds against: the chapter's tables, written down as they stand.

// row is a line of the table of P4.1: the least spec of a kind, and what else it may say. A Box is three rows.
type row struct {
	name   string
	least  api.Spec
	fields string // those that count beside the least: t(ext) n(umber) s(mall) r(e) i(m) f(lag) m(ask) l(ist of Items)
	isNil  bool   // whether its Nil may be true
	most   int    // of its parts
	sample error  // of the kind's type
	faces  string // but for error and any
}

func rows() []row {
	k := func(kind uint8) api.Spec { return api.Spec{Kind: kind} }
	box := func(n int16) api.Spec { return api.Spec{Kind: 23, Number: n} }
	return []row{
		{"Code", k(1), "n", false, 0, kinds.Code(0), "Grader Kinder"},
		{"Note", k(2), "t", false, 0, kinds.Note(""), "Kinder"},
		{"Level", k(3), "r", false, 0, kinds.Level(0), "Weigher Kinder"},
		{"Sway", k(4), "ri", false, 0, kinds.Sway(0), "Phaser"},
		{"Mark", api.Spec{Kind: 5, Text: "abcd"}, "", false, 0, kinds.Mark{}, ""},
		{"Tags", k(6), "ln", true, 0, kinds.Tags{}, "Sizer"},
		{"Lazy", k(7), "tf", true, 0, kinds.Lazy(nil), ""},
		{"Line", k(8), "", true, 0, kinds.Line(nil), ""},
		{"Plain", k(9), "t", true, 0, (*kinds.Plain)(nil), ""},
		{"Quiet", k(10), "tf", true, 0, (*kinds.Quiet)(nil), "Timer TimedError"},
		{"Coded", k(11), "nt", false, 0, kinds.Coded{}, "Grader Coder"},
		{"Bag", k(12), "tl", false, 0, kinds.Bag{}, "Detailer"},
		{"Hold", k(13), "t", false, 1, kinds.Hold{}, ""},
		{"Wrap", k(14), "t", true, 1, (*kinds.Wrap)(nil), "One"},
		{"Over", k(15), "t", false, 1, kinds.Over{}, "One"},
		{"Join", k(16), "", true, 64, (*kinds.Join)(nil), "Many"},
		{"Timed", k(17), "f", false, 1, kinds.Timed{}, "Timer TimedError"},
		{"Placed", k(18), "n", false, 1, kinds.Placed{}, "Liner"},
		{"Twin", k(19), "nr", false, 0, kinds.Twin{}, "Grader Weigher"},
		{"Veil", k(20), "", false, 1, kinds.Veil{}, ""},
		{"Echo", k(21), "tf", true, 0, (*kinds.Echo)(nil), "Judge"},
		{"Guise", k(22), "tn", true, 0, (*kinds.Guise)(nil), "Lender"},
		{"Box[int8]", box(1), "s", false, 0, kinds.Box[int8]{}, ""},
		{"Box[float64]", box(2), "r", false, 0, kinds.Box[float64]{}, ""},
		{"Box[[]uint8]", box(3), "t", true, 0, kinds.Box[[]uint8]{}, ""},
		{"Slow", k(24), "tf", true, 0, (*kinds.Slow)(nil), ""},
		{"Full", k(25), "nt", false, 1, kinds.Full{}, "Grader Coder One CodedCause"},
		{"Opaque", api.Spec{Kind: 26, Items: []string{"name"}}, "tm", true, 64, (*kinds.Opaque)(nil), "Many"},
	}
}

func (r row) isPointer() bool { return reflect.TypeOf(r.sample).Kind() == reflect.Pointer }

// nothing is the row's spec with Nil.
func (r row) nothing() api.Spec {
	s := api.Spec{Kind: r.least.Kind, Nil: true}
	if s.Kind == api.KindBox {
		s.Number = r.least.Number
	}
	return s
}

// drawn is a spec of the row, and parts for it: with all of its fields, or none, or some.
func (r row) drawn(draw *rand.Rand) (api.Spec, []error) {
	s := r.least
	for _, field := range r.fields {
		if draw.Intn(4) > 0 {
			set(&s, field, draw)
		}
	}
	if s.Kind == api.KindMark {
		s.Text = string([]byte{byte(draw.Int()), byte(draw.Int()), byte(draw.Int()), byte(draw.Int())})
	}
	var parts []error
	for range draw.Intn(min(r.most, 5) + 1) {
		part := drawnPart(draw, s.Kind)
		parts = append(parts, part)
		s.Parts = append(s.Parts, 0)
		if part != nil {
			s.Parts[len(s.Parts)-1] = []int{1, 7, -1, math.MaxInt, math.MinInt}[draw.Intn(5)]
		}
	}
	return s, parts
}

func set(s *api.Spec, field rune, draw *rand.Rand) {
	words := []string{"", "a", "w: x", "\n", "\xff\x00", "é", "b", "aa", strings.Repeat("long", 1024)}
	floats := []float64{0, math.Copysign(0, -1), 1, -2.5, 1e21, math.Inf(1), math.Inf(-1), math.NaN(), 0.1}
	switch field {
	case 't':
		s.Text = words[draw.Intn(len(words))]
	case 'n':
		s.Number = int16(draw.Int()) >> draw.Intn(16)
	case 's':
		s.Small = int8(draw.Int())
	case 'r':
		s.Re = floats[draw.Intn(len(floats))]
	case 'i':
		s.Im = floats[draw.Intn(len(floats))]
	case 'f':
		s.Flag = draw.Intn(2) == 0
	case 'm':
		s.Mask = draw.Uint32()
	case 'l':
		for range draw.Intn(api.MaxItems + 1) {
			s.Items = append(s.Items, words[draw.Intn(len(words))])
		}
	}
}

// drawnPart is a part for an error of a kind: often no error.
func drawnPart(draw *rand.Rand, kind uint8) error {
	text := strings.Repeat("p", []int{0, 1, 10, api.MaxWord}[draw.Intn(4)])
	if draw.Intn(4) == 0 {
		return nil
	}
	switch kind {
	case api.KindPlaced:
		return plain(text)
	case api.KindFull:
		return wrap(text, nil)
	}
	if draw.Intn(4) == 0 {
		return said(strings.Repeat("q", api.MaxText))
	}
	return said(text)
}

// said is an error of somebody else.
type said string

func (s said) Error() string { return string(s) }

// mute is an error no method of which may be called.
type mute struct{}

func (mute) Error() string   { panic("Error of a mute") }
func (mute) Is(error) bool   { panic("Is of a mute") }
func (mute) As(any) bool     { panic("As of a mute") }
func (mute) Unwrap() []error { panic("Unwrap of a mute") }
func (mute) Kind() uint8     { panic("Kind of a mute") }
func (mute) String() string  { panic("String of a mute") }
func (mute) Timeout() bool   { panic("Timeout of a mute") }

// made is the error of a spec that may be, with parts that may be; each stands under the number 1, no error under 0.
func made(s api.Spec, parts ...error) error {
	for i, part := range parts {
		s.Parts = append(s.Parts[:i:i], 0)
		if part != nil {
			s.Parts[i] = 1
		}
	}
	err, e := kinds.Make(s, parts)
	if e != api.OK {
		panic(fmt.Sprintf("Make(%+v): %d", s, e))
	}
	return err
}

func plain(text string) *kinds.Plain {
	return made(api.Spec{Kind: api.KindPlain, Text: text}).(*kinds.Plain)
}

func wrap(text string, cause error) *kinds.Wrap {
	return made(api.Spec{Kind: api.KindWrap, Text: text}, cause).(*kinds.Wrap)
}

func note(text string) error { return made(api.Spec{Kind: api.KindNote, Text: text}) }

// someErrors are errors of all kinds, drawn, and each kind's nothing.
func someErrors(each int) []error {
	draw := rand.New(rand.NewSource(4))
	var all []error
	for _, r := range rows() {
		for range each {
			s, parts := r.drawn(draw)
			all = append(all, made(s, parts...))
		}
		if r.isNil {
			all = append(all, made(r.nothing()))
		}
	}
	return all
}

// asked is what f answers, and what it gave up with; no panic, if it did not.
func asked[T any](f func() T) (answer T, p api.Panic) {
	defer func() {
		switch x := recover().(type) {
		case nil:
		case kinds.Note:
			p = api.Panic{Sort: api.OwnPanic, Word: string(x)}
		case runtime.Error:
			p = api.Panic{Sort: api.RuntimePanic}
		default:
			panic(x)
		}
	}()
	return f(), api.Panic{}
}

var (
	atRuntime = api.Panic{Sort: api.RuntimePanic}
	noPanic   = api.Panic{}
)

func own(word string) api.Panic { return api.Panic{Sort: api.OwnPanic, Word: word} }

// sayTold holds what an error's Error tells, or gives up with, against what it should.
func sayTold(t *testing.T, what string, err error, text string, p api.Panic) {
	t.Helper()
	if s, q := asked(err.Error); s != text || q != p {
		t.Errorf("%s: %q, %v, not %q, %v", what, s, q, text, p)
	}
}

// told is what Error tells of a spec, by the table of P4.5: of parts that panic nothing is known here.
func told(s api.Spec, parts []error) (string, api.Panic) {
	if s.Nil {
		return toldOfNothing(s.Kind)
	}
	var texts []string
	for _, part := range parts {
		if part != nil {
			texts = append(texts, part.Error())
		}
	}
	behind := ""
	if len(texts) > 0 {
		behind = ": " + texts[0]
	}
	switch s.Kind {
	case 1:
		return fmt.Sprintf("code %d", s.Number), noPanic
	case 3:
		return "level " + value.Float(s.Re), noPanic
	case 4:
		return "sway " + value.Complex(complex(s.Re, s.Im)), noPanic
	case 5:
		return fmt.Sprintf("mark %x", s.Text), noPanic
	case 6:
		return toldOfTags(s), noPanic
	case 7, 24:
		if s.Flag {
			return "", own(s.Text)
		}
	case 8:
		return "line", noPanic
	case 14, 15:
		return s.Text + behind, noPanic
	case 16:
		return strings.Join(texts, "\n"), noPanic
	case 17, 18:
		if len(texts) == 0 {
			return "", atRuntime
		}
		return texts[0], noPanic
	case 19:
		return fmt.Sprintf("twin %d %s", s.Number, value.Float(s.Re)), noPanic
	case 20:
		return "veil" + behind, noPanic
	case 23:
		return "box " + []string{fmt.Sprint(s.Small), value.Float(s.Re), s.Text}[s.Number-1], noPanic
	case 25:
		return "full: " + s.Text, noPanic
	}
	return s.Text, noPanic
}

func toldOfNothing(kind uint8) (string, api.Panic) {
	switch kind {
	case 6:
		return "tags", noPanic
	case 8:
		return "line", noPanic
	case 10:
		return "quiet", noPanic
	case 23:
		return "box ", noPanic
	}
	return "", atRuntime
}

func toldOfTags(s api.Spec) string {
	counts := map[string]int{}
	for i, item := range s.Items {
		n := int(s.Number) + i
		if n > math.MaxInt16 {
			n -= 1 << 16
		}
		counts[item] = n
	}
	var keys []string
	for key := range counts {
		keys = append(keys, key)
	}
	slices.Sort(keys)
	text := "tags"
	for _, key := range keys {
		text += fmt.Sprintf(" %s=%d", key, counts[key])
	}
	return text
}
