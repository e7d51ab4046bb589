package faces

import "errata/api"

// Nothing here calls a method of what is asserted: whether it holds a face hangs on its type alone.

func holds(x any, face uint8) bool {
	_, ok := asserted(x, face)
	return ok
}

func heldBy(x any) uint32 {
	var held uint32
	for face := firstFace; face <= lastFace; face++ {
		if holds(x, face) {
			held |= bit(face)
		}
	}
	return held
}

// road is how many of the faces hold, each asked of what the assertion to the one ahead of it made.
func road(x any, faces []uint8) int {
	for n, face := range faces {
		next, ok := asserted(x, face)
		if !ok {
			return n
		}
		x = next
	}
	return len(faces)
}

// asserted is what the two-valued assertion to a face makes.
func asserted(x any, face uint8) (any, bool) {
	switch face {
	case api.FaceError:
		return made[error](x)
	case api.FaceGrader:
		return made[api.Grader](x)
	case api.FaceCoder:
		return made[api.Coder](x)
	case api.FaceWeigher:
		return made[api.Weigher](x)
	case api.FacePhaser:
		return made[api.Phaser](x)
	case api.FaceTimer:
		return made[api.Timer](x)
	case api.FaceLiner:
		return made[api.Liner](x)
	case api.FaceDetailer:
		return made[api.Detailer](x)
	case api.FaceOne:
		return made[api.One](x)
	case api.FaceMany:
		return made[api.Many](x)
	case api.FaceJudge:
		return made[api.Judge](x)
	case api.FaceLender:
		return made[api.Lender](x)
	case api.FaceKinder:
		return made[api.Kinder](x)
	case api.FaceSizer:
		return made[api.Sizer](x)
	case api.FaceTimedError:
		return made[api.TimedError](x)
	case api.FaceCodedCause:
		return made[api.CodedCause](x)
	case api.FaceWhole:
		return made[api.Whole](x)
	case api.FaceNobody:
		return made[api.Nobody](x)
	case api.FaceAny:
		return made[any](x)
	}
	return nil, false
}

func made[F any](x any) (any, bool) {
	if next, ok := x.(F); ok {
		return next, true
	}
	return nil, false
}

// panicOf is what the one-valued assertion to a face comes to, or ErrFace.
func panicOf(x any, face uint8) (p api.Panic, e api.Errno) {
	defer func() {
		if bad := recover(); bad != nil {
			p, e = told(bad)
		}
	}()
	mustHold(x, face)
	return api.Panic{}, api.OK
}

func told(bad any) (api.Panic, api.Errno) {
	if e, ok := bad.(api.Errno); ok {
		return api.Panic{}, e
	}
	return api.Panic{Sort: api.RuntimePanic}, api.OK
}

// mustHold panics as the one-valued assertion to a face does; of a number that is no face it gives up with ErrFace, lest it seem to hold.
func mustHold(x any, face uint8) {
	switch face {
	case api.FaceError:
		_ = x.(error)
	case api.FaceGrader:
		_ = x.(api.Grader)
	case api.FaceCoder:
		_ = x.(api.Coder)
	case api.FaceWeigher:
		_ = x.(api.Weigher)
	case api.FacePhaser:
		_ = x.(api.Phaser)
	case api.FaceTimer:
		_ = x.(api.Timer)
	case api.FaceLiner:
		_ = x.(api.Liner)
	case api.FaceDetailer:
		_ = x.(api.Detailer)
	case api.FaceOne:
		_ = x.(api.One)
	case api.FaceMany:
		_ = x.(api.Many)
	case api.FaceJudge:
		_ = x.(api.Judge)
	case api.FaceLender:
		_ = x.(api.Lender)
	case api.FaceKinder:
		_ = x.(api.Kinder)
	case api.FaceSizer:
		_ = x.(api.Sizer)
	case api.FaceTimedError:
		_ = x.(api.TimedError)
	case api.FaceCodedCause:
		_ = x.(api.CodedCause)
	case api.FaceWhole:
		_ = x.(api.Whole)
	case api.FaceNobody:
		_ = x.(api.Nobody)
	case api.FaceAny:
		_ = x.(any)
	default:
		panic(api.ErrFace)
	}
}
