package kinds_test

import (
	"math"
	"math/rand"
	"slices"
	"strings"
	"testing"

	"errata/api"
	"errata/kinds"
)

func sayChecked(t *testing.T, what string, s api.Spec, e api.Errno) {
	t.Helper()
	if got := kinds.Check(s); got != e {
		t.Errorf("Check of %s: %d, not %d: %+v", what, got, e, s)
	}
	if e == api.OK {
		return
	}
	if err, got := kinds.Make(s, make([]error, len(s.Parts))); err != nil || got != e {
		t.Errorf("Make of %s: %v, %d, not %d", what, err, got, e)
	}
	if n := kinds.Long(s, []int{3, 4}); n != 0 {
		t.Errorf("Long of %s: %d", what, n)
	}
}

func TestP4_1Parts(t *testing.T) {
	most := map[uint8]int{}
	for _, r := range rows() {
		most[r.least.Kind] = r.most
	}
	if len(most) != 26 {
		t.Fatal("the table has", len(most))
	}
	for kind := range 256 {
		if l, m := kinds.Parts(uint8(kind)); l != 0 || m != most[uint8(kind)] {
			t.Errorf("Parts(%d): %d %d", kind, l, m)
		}
	}
}

// TestP4_1Fields gives each kind each field, alone and all of its own together: those that count may be, all others must be zero.
func TestP4_1Fields(t *testing.T) {
	minus0 := math.Copysign(0, -1)
	spoilt := map[rune][]func(*api.Spec){
		't': {func(s *api.Spec) { s.Text = "abcd" }, func(s *api.Spec) { s.Text = "\x00" }},
		'n': {func(s *api.Spec) { s.Number = 1 }, func(s *api.Spec) { s.Number = -32768 }},
		's': {func(s *api.Spec) { s.Small = 1 }, func(s *api.Spec) { s.Small = -128 }},
		'r': {func(s *api.Spec) { s.Re = 1 }, func(s *api.Spec) { s.Re = minus0 }, func(s *api.Spec) { s.Re = math.NaN() }},
		'i': {func(s *api.Spec) { s.Im = 1 }, func(s *api.Spec) { s.Im = minus0 }, func(s *api.Spec) { s.Im = math.Inf(-1) }},
		'f': {func(s *api.Spec) { s.Flag = true }},
		'm': {func(s *api.Spec) { s.Mask = 1 }, func(s *api.Spec) { s.Mask = 1 << 31 }},
		'l': {func(s *api.Spec) { s.Items = []string{"x"} }, func(s *api.Spec) { s.Items = []string{""} }},
	}
	for _, r := range rows() {
		sayChecked(t, r.name, r.least, api.OK)
		for field, spoils := range spoilt {
			if field == 't' && r.least.Text != "" || field == 'n' && r.least.Number != 0 || field == 'l' && r.least.Items != nil {
				continue
			}
			for _, spoil := range spoils {
				s, e := r.least, api.ErrKind
				if strings.ContainsRune(r.fields, field) {
					e = api.OK
				}
				spoil(&s)
				sayChecked(t, r.name+" with "+string(field), s, e)
				if r.isNil {
					s = r.nothing()
					spoil(&s)
					sayChecked(t, "a nil "+r.name+" with "+string(field), s, api.ErrKind)
				}
			}
		}
		all := r.least
		for _, field := range r.fields {
			spoilt[field][0](&all)
		}
		sayChecked(t, r.name+" with all fields", all, api.OK)
	}
}

func TestP4_1Drawn(t *testing.T) {
	draw := rand.New(rand.NewSource(1))
	for _, r := range rows() {
		for range 50 {
			s, parts := r.drawn(draw)
			sayChecked(t, r.name, s, api.OK)
			if err, e := kinds.Make(s, parts); err == nil || e != api.OK {
				t.Errorf("Make of %s: %v %d", r.name, err, e)
			}
		}
	}
}

func TestP4_1Nil(t *testing.T) {
	for _, r := range rows() {
		s, e := r.nothing(), api.ErrKind
		if r.isNil {
			e = api.OK
		}
		sayChecked(t, "a nil "+r.name, s, e)
		s.Parts = []int{0}
		if r.isNil {
			e = api.ErrPart
		}
		sayChecked(t, "a nil "+r.name+" with a part", s, e)
		if r.least.Text != "" || len(r.least.Items) != 0 {
			s = r.least
			s.Nil = true
			sayChecked(t, "a nil "+r.name+" with words", s, api.ErrKind)
		}
	}
}

func TestP4_2Kinds(t *testing.T) {
	for kind := range 256 {
		if kind >= 1 && kind <= 26 {
			continue
		}
		for _, s := range []api.Spec{{}, {Nil: true}, {Text: "x"}, {Number: 1}, {Parts: []int{1}}} {
			s.Kind = uint8(kind)
			sayChecked(t, "no kind", s, api.ErrKind)
		}
	}
}

func TestP4_2Examples(t *testing.T) {
	minus0 := math.Copysign(0, -1)
	for _, x := range []struct {
		s api.Spec
		e api.Errno
	}{
		{api.Spec{Kind: 1, Text: "x"}, api.ErrKind},
		{api.Spec{Kind: 9, Nil: true, Text: "x"}, api.ErrKind},
		{api.Spec{Kind: 14, Nil: true, Text: "x", Parts: []int{1}}, api.ErrKind},
		{api.Spec{Kind: 5, Text: "abc"}, api.ErrKind},
		{api.Spec{Kind: 5, Text: "abcd"}, api.OK},
		{api.Spec{Kind: 5, Text: "abcde"}, api.ErrKind},
		{api.Spec{Kind: 5}, api.ErrKind},
		{api.Spec{Kind: 5, Text: "\xff\xff\x00é"}, api.ErrKind},
		{api.Spec{Kind: 5, Text: "\xff\x00é"}, api.OK},
		{api.Spec{Kind: 23}, api.ErrKind},
		{api.Spec{Kind: 23, Number: 4}, api.ErrKind},
		{api.Spec{Kind: 23, Number: -1}, api.ErrKind},
		{api.Spec{Kind: 23, Number: 0, Nil: true}, api.ErrKind},
		{api.Spec{Kind: 23, Number: 4, Nil: true}, api.ErrKind},
		{api.Spec{Kind: 23, Number: 1, Re: minus0}, api.ErrKind},
		{api.Spec{Kind: 23, Number: 2, Re: minus0}, api.OK},
		{api.Spec{Kind: 3, Re: math.NaN()}, api.OK},
		{api.Spec{Kind: 3, Im: math.NaN()}, api.ErrKind},
		{api.Spec{Kind: 3, Re: minus0, Im: minus0}, api.ErrKind},
		{api.Spec{Kind: 4, Re: minus0, Im: minus0}, api.OK},
		{api.Spec{Kind: 26}, api.ErrKind},
		{api.Spec{Kind: 26, Items: []string{}}, api.ErrKind},
		{api.Spec{Kind: 26, Items: []string{""}}, api.ErrKind},
		{api.Spec{Kind: 26, Items: []string{"\x00"}}, api.OK},
		{api.Spec{Kind: 26, Items: []string{"a", "b"}}, api.ErrKind},
		{api.Spec{Kind: 26, Nil: true, Mask: 1}, api.ErrKind},
		{api.Spec{Kind: 1, Items: []string{}, Parts: []int{}}, api.OK},
		{api.Spec{Kind: 9, Nil: true, Items: []string{}, Parts: []int{}}, api.OK},
		{api.Spec{Kind: 1, Parts: []int{0}}, api.ErrPart},
		{api.Spec{Kind: 1, Text: "x", Parts: []int{0}}, api.ErrKind},
		{api.Spec{Kind: 14, Parts: []int{1, 2}}, api.ErrPart},
		{api.Spec{Kind: 14, Parts: []int{1, 2}, Small: 1}, api.ErrKind},
	} {
		sayChecked(t, "an example", x.s, x.e)
	}
}

func TestP4_2Limits(t *testing.T) {
	word := strings.Repeat("w", api.MaxWord)
	many := slices.Repeat([]string{"i"}, api.MaxItems)
	for _, r := range rows() {
		if strings.Contains(r.fields, "t") {
			s := r.least
			s.Text = word
			sayChecked(t, r.name+" with a long Text", s, api.OK)
			s.Text += "w"
			sayChecked(t, r.name+" with a Text too long", s, api.ErrKind)
		}
		if strings.Contains(r.fields, "l") {
			s := r.least
			s.Items = many
			sayChecked(t, r.name+" with many Items", s, api.OK)
			s.Items = append(many[:64:64], "one more")
			sayChecked(t, r.name+" with too many Items", s, api.ErrKind)
			s.Items = []string{"a", word}
			sayChecked(t, r.name+" with a long Item", s, api.OK)
			s.Items = []string{"a", word + "w"}
			sayChecked(t, r.name+" with an Item too long", s, api.ErrKind)
		}
	}
	sayChecked(t, "Opaque with a long name", api.Spec{Kind: 26, Items: []string{word}}, api.OK)
	sayChecked(t, "Opaque with a name too long", api.Spec{Kind: 26, Items: []string{word + "w"}}, api.ErrKind)
}

func TestP4_2HowManyParts(t *testing.T) {
	for _, r := range rows() {
		for _, n := range []int{0, 1, 2, api.MaxParts - 1, api.MaxParts, api.MaxParts + 1, 1000} {
			s, e := r.least, api.OK
			if n > r.most {
				e = api.ErrPart
			}
			s.Parts = slices.Repeat([]int{-7}, n)
			sayChecked(t, r.name+" with parts", s, e)
			s.Parts = make([]int, n)
			sayChecked(t, r.name+" with parts that are none", s, e)
		}
	}
}
