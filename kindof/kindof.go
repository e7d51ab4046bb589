// Package kindof tells the kind of an error by its type alone, for the layers that ask the error as such and not its book.
package kindof

import (
	"errata/api"
	"errata/kinds"
)

// Error is the kind whose type an error has; 0 of no error, and of what is of no kind.
func Error(err error) uint8 {
	switch err.(type) {
	case kinds.Code:
		return api.KindCode
	case kinds.Note:
		return api.KindNote
	case kinds.Level:
		return api.KindLevel
	case kinds.Sway:
		return api.KindSway
	case kinds.Mark:
		return api.KindMark
	case kinds.Tags:
		return api.KindTags
	case kinds.Lazy:
		return api.KindLazy
	case kinds.Line:
		return api.KindLine
	case *kinds.Plain:
		return api.KindPlain
	case *kinds.Quiet:
		return api.KindQuiet
	case kinds.Coded:
		return api.KindCoded
	case kinds.Bag:
		return api.KindBag
	case kinds.Hold:
		return api.KindHold
	case *kinds.Wrap:
		return api.KindWrap
	case kinds.Over:
		return api.KindOver
	case *kinds.Join:
		return api.KindJoin
	case kinds.Timed:
		return api.KindTimed
	case kinds.Placed:
		return api.KindPlaced
	case kinds.Twin:
		return api.KindTwin
	case kinds.Veil:
		return api.KindVeil
	case *kinds.Echo:
		return api.KindEcho
	case *kinds.Guise:
		return api.KindGuise
	case kinds.Box[int8], kinds.Box[float64], kinds.Box[[]uint8]:
		return api.KindBox
	case *kinds.Slow:
		return api.KindSlow
	case kinds.Full:
		return api.KindFull
	case *kinds.Opaque:
		return api.KindOpaque
	}
	return 0
}
