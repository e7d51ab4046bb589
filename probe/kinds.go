package probe

import (
	"errata/api"
	"errata/kinds"
)

// assertion is to one type, in both forms: the one that tells, and the one that panics.
type assertion struct {
	tells  func(x any) bool
	panics func(x any)
}

func to[T any]() assertion {
	return assertion{
		tells: func(x any) bool {
			_, ok := x.(T)
			return ok
		},
		panics: func(x any) { _ = x.(T) },
	}
}

// toBox is to one of a Box's three types.
func toBox() assertion {
	small, float, bytes := to[kinds.Box[int8]](), to[kinds.Box[float64]](), to[kinds.Box[[]uint8]]()
	return assertion{
		tells: func(x any) bool { return small.tells(x) || float.tells(x) || bytes.tells(x) },
		panics: func(x any) {
			if !small.tells(x) && !float.tells(x) {
				bytes.panics(x)
			}
		},
	}
}

// toKind is to the type of a kind; of no kind the zero one.
func toKind(kind uint8) assertion {
	switch kind {
	case api.KindCode:
		return to[kinds.Code]()
	case api.KindNote:
		return to[kinds.Note]()
	case api.KindLevel:
		return to[kinds.Level]()
	case api.KindSway:
		return to[kinds.Sway]()
	case api.KindMark:
		return to[kinds.Mark]()
	case api.KindTags:
		return to[kinds.Tags]()
	case api.KindLazy:
		return to[kinds.Lazy]()
	case api.KindLine:
		return to[kinds.Line]()
	case api.KindPlain:
		return to[*kinds.Plain]()
	case api.KindQuiet:
		return to[*kinds.Quiet]()
	case api.KindCoded:
		return to[kinds.Coded]()
	case api.KindBag:
		return to[kinds.Bag]()
	case api.KindHold:
		return to[kinds.Hold]()
	case api.KindWrap:
		return to[*kinds.Wrap]()
	case api.KindOver:
		return to[kinds.Over]()
	case api.KindJoin:
		return to[*kinds.Join]()
	case api.KindTimed:
		return to[kinds.Timed]()
	case api.KindPlaced:
		return to[kinds.Placed]()
	case api.KindTwin:
		return to[kinds.Twin]()
	case api.KindVeil:
		return to[kinds.Veil]()
	case api.KindEcho:
		return to[*kinds.Echo]()
	case api.KindGuise:
		return to[*kinds.Guise]()
	case api.KindBox:
		return toBox()
	case api.KindSlow:
		return to[*kinds.Slow]()
	case api.KindFull:
		return to[kinds.Full]()
	case api.KindOpaque:
		return to[*kinds.Opaque]()
	}
	return assertion{}
}
