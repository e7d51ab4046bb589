package kinds

import (
	"slices"
	"strings"

	"errata/api"
)

// Make is the error of a spec, with these parts.
func Make(s api.Spec, parts []error) (error, api.Errno) {
	if e := Check(s); e != api.OK {
		return nil, e
	}
	if len(parts) != len(s.Parts) {
		return nil, api.ErrPart
	}
	if s.Nil {
		return nothing(s.Kind), api.OK
	}
	s = withOwnWords(s)
	switch _, most := Parts(s.Kind); most {
	case 0:
		return leaf(s), api.OK
	case 1:
		return about(s, theOne(parts))
	}
	return many(s, slices.Clone(parts)), api.OK
}

// withOwnWords is a spec whose words share no memory with those that were handed in.
func withOwnWords(s api.Spec) api.Spec {
	items := make([]string, len(s.Items))
	for i, item := range s.Items {
		items[i] = strings.Clone(item)
	}
	s.Text, s.Items = strings.Clone(s.Text), items
	return s
}

// nothing is the nil one of a kind; nil, where the kind has none.
func nothing(kind uint8) error {
	switch kind {
	case api.KindTags:
		return Tags{}
	case api.KindLazy:
		return Lazy(nil)
	case api.KindLine:
		return Line(nil)
	case api.KindPlain:
		return (*Plain)(nil)
	case api.KindQuiet:
		return (*Quiet)(nil)
	case api.KindWrap:
		return (*Wrap)(nil)
	case api.KindJoin:
		return (*Join)(nil)
	case api.KindEcho:
		return (*Echo)(nil)
	case api.KindGuise:
		return (*Guise)(nil)
	case api.KindBox:
		return Box[[]uint8]{}
	case api.KindSlow:
		return (*Slow)(nil)
	case api.KindOpaque:
		return (*Opaque)(nil)
	}
	return nil
}

// leaf is the error of a kind that has no parts.
func leaf(s api.Spec) error {
	switch s.Kind {
	case api.KindCode:
		return Code(s.Number)
	case api.KindNote:
		return Note(s.Text)
	case api.KindLevel:
		return Level(s.Re)
	case api.KindSway:
		return Sway(complex(s.Re, s.Im))
	case api.KindMark:
		return Mark([]uint8(s.Text))
	case api.KindTags:
		return Tags{m: counts(s)}
	case api.KindLazy:
		return Lazy(teller(s.Text, s.Flag))
	case api.KindLine:
		return make(Line)
	case api.KindPlain:
		return &Plain{text: s.Text}
	case api.KindQuiet:
		return &Quiet{text: s.Text, long: s.Flag}
	case api.KindCoded:
		return coded(s)
	case api.KindBag:
		return Bag{text: s.Text, items: s.Items}
	case api.KindTwin:
		return Twin{Code: Code(s.Number), Level: Level(s.Re)}
	case api.KindEcho:
		return &Echo{text: s.Text, harsh: s.Flag}
	case api.KindGuise:
		return &Guise{text: s.Text, number: s.Number}
	case api.KindBox:
		return box(s)
	case api.KindSlow:
		return &Slow{make: teller(s.Text, s.Flag)}
	}
	return nil
}

// counts are a Tags' keys with their counts, which wrap.
func counts(s api.Spec) map[string]int16 {
	m := map[string]int16{}
	for i, item := range s.Items {
		m[item] = s.Number + int16(i)
	}
	return m
}

// teller makes a function that answers a text, or gives up with it.
func teller(text string, givesUp bool) func() string {
	return func() string {
		if givesUp {
			panic(Note(text))
		}
		return text
	}
}

func coded(s api.Spec) Coded { return Coded{number: s.Number, text: s.Text} }

func box(s api.Spec) error {
	switch s.Number {
	case boxOfSmall:
		return Box[int8]{item: s.Small}
	case boxOfFloat:
		return Box[float64]{item: s.Re}
	}
	return Box[[]uint8]{item: []uint8(s.Text)}
}

// theOne is the only part; no error, where there is none.
func theOne(parts []error) error {
	if len(parts) == 0 {
		return nil
	}
	return parts[0]
}

// about is the error of a kind that has one part at most.
func about(s api.Spec, part error) (error, api.Errno) {
	switch s.Kind {
	case api.KindHold:
		return Hold{text: s.Text, any: part}, api.OK
	case api.KindWrap:
		return &Wrap{text: s.Text, cause: part}, api.OK
	case api.KindOver:
		return Over{text: s.Text, cause: part}, api.OK
	case api.KindTimed:
		return Timed{error: part, long: s.Flag}, api.OK
	case api.KindVeil:
		return Veil{inner: part}, api.OK
	case api.KindPlaced:
		return placed(s, part)
	}
	return full(s, part)
}

func placed(s api.Spec, part error) (error, api.Errno) {
	plain, ok := part.(*Plain)
	if !ok && part != nil {
		return nil, api.ErrPart
	}
	return Placed{Plain: plain, where: s.Number}, api.OK
}

func full(s api.Spec, part error) (error, api.Errno) {
	wrap, ok := part.(*Wrap)
	if !ok && part != nil {
		return nil, api.ErrPart
	}
	return Full{Wrap: wrap, Coded: coded(s)}, api.OK
}

// many is the error of a kind that has any number of parts, which it keeps.
func many(s api.Spec, parts []error) error {
	if s.Kind == api.KindJoin {
		return &Join{parts: parts}
	}
	return &Opaque{name: s.Items[0], text: s.Text, parts: parts, mask: s.Mask}
}
