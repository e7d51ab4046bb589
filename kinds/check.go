package kinds

import (
	"math"

	"errata/api"
)

// What a Box is around, by its spec's Number.
const (
	boxOfSmall = 1
	boxOfFloat = 2
	boxOfBytes = 3
)

const markBytes = len(Mark{})

// Check says what is wrong with a spec.
func Check(s api.Spec) api.Errno {
	if !fits(s) || !isOwn(s) {
		return api.ErrKind
	}
	least, most := Parts(s.Kind)
	if n := len(s.Parts); n < least || n > most || s.Nil && n > 0 {
		return api.ErrPart
	}
	return api.OK
}

// Parts is how many parts an error of a kind may have.
func Parts(kind uint8) (least, most int) {
	switch kind {
	case api.KindHold, api.KindWrap, api.KindOver, api.KindTimed, api.KindPlaced, api.KindVeil, api.KindFull:
		return 0, 1
	case api.KindJoin, api.KindOpaque:
		return 0, api.MaxParts
	}
	return 0, 0
}

// fits tells whether a spec's words keep to the limits.
func fits(s api.Spec) bool {
	if len(s.Text) > api.MaxWord || len(s.Items) > api.MaxItems {
		return false
	}
	for _, item := range s.Items {
		if len(item) > api.MaxWord {
			return false
		}
	}
	return true
}

// isOwn tells whether a spec has a kind, fields as that asks for, and nothing in the others.
func isOwn(s api.Spec) bool {
	if s.Nil {
		return isOwnNil(s)
	}
	return hasOwnFields(s)
}

// isOwnNil asks of a Box that it be around bytes: no other Box can be a nil one.
func isOwnNil(s api.Spec) bool {
	if nothing(s.Kind) == nil {
		return false
	}
	others := s
	others.Nil = false
	if s.Kind == api.KindBox {
		if s.Number != boxOfBytes {
			return false
		}
		others.Number = 0
	}
	return isBlank(others)
}

func hasOwnFields(s api.Spec) bool {
	others := s
	switch s.Kind {
	case api.KindLine, api.KindJoin, api.KindVeil:
	case api.KindNote, api.KindPlain, api.KindHold, api.KindWrap, api.KindOver:
		others.Text = ""
	case api.KindLazy, api.KindQuiet, api.KindEcho, api.KindSlow:
		others.Text, others.Flag = "", false
	case api.KindCoded, api.KindGuise, api.KindFull:
		others.Number, others.Text = 0, ""
	case api.KindCode, api.KindPlaced:
		others.Number = 0
	case api.KindLevel:
		others.Re = 0
	case api.KindSway:
		others.Re, others.Im = 0, 0
	case api.KindTwin:
		others.Number, others.Re = 0, 0
	case api.KindTimed:
		others.Flag = false
	case api.KindTags:
		others.Items, others.Number = nil, 0
	case api.KindBag:
		others.Text, others.Items = "", nil
	case api.KindMark:
		if len(s.Text) != markBytes {
			return false
		}
		others.Text = ""
	case api.KindBox:
		return hasBoxFields(s)
	case api.KindOpaque:
		if len(s.Items) != 1 || s.Items[0] == "" {
			return false
		}
		others.Text, others.Mask, others.Items = "", 0, nil
	default:
		return false
	}
	return isBlank(others)
}

func hasBoxFields(s api.Spec) bool {
	others := s
	others.Number = 0
	switch s.Number {
	case boxOfSmall:
		others.Small = 0
	case boxOfFloat:
		others.Re = 0
	case boxOfBytes:
		others.Text = ""
	default:
		return false
	}
	return isBlank(others)
}

// isBlank leaves the Kind and the Parts aside, and asks for the floats' bits, because a nought with a sign is no blank.
func isBlank(s api.Spec) bool {
	return !s.Nil && s.Text == "" && s.Number == 0 && s.Small == 0 &&
		math.Float64bits(s.Re) == 0 && math.Float64bits(s.Im) == 0 &&
		!s.Flag && s.Mask == 0 && len(s.Items) == 0
}
