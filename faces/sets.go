package faces

import "errata/api"

const (
	firstFace = api.FaceError
	lastFace  = api.FaceAny

	allFaces uint32 = 1<<(lastFace+1) - 1<<firstFace
)

// methodNever is the only method that has not the number of a face that has it alone.
const methodNever = 15

// Methods are the methods of a face.
func Methods(face uint8) (uint32, api.Errno) {
	if !isFace(face) {
		return 0, api.ErrFace
	}
	return methodsOf(face), api.OK
}

// Follows says whether a value that holds the one face holds the other one.
func Follows(one, other uint8) (bool, api.Errno) {
	if !isFace(one) || !isFace(other) {
		return false, api.ErrFace
	}
	return follows(one, other), api.OK
}

// Closure is the faces that a value holds that holds these.
func Closure(faces uint32) uint32 {
	var methods, closure uint32
	for face := firstFace; face <= lastFace; face++ {
		if has(faces, face) {
			methods |= methodsOf(face)
		}
	}
	for face := firstFace; face <= lastFace; face++ {
		if within(methodsOf(face), methods) {
			closure |= bit(face)
		}
	}
	return closure
}

// Core is those of some faces from which the others follow.
func Core(faces uint32) uint32 {
	var core uint32
	for face := firstFace; face <= lastFace; face++ {
		if has(faces, face) && !isSpare(face, faces) {
			core |= bit(face)
		}
	}
	return core
}

// isSpare tells whether a face follows from another one of some faces; of like ones the least is none that is spare.
func isSpare(face uint8, faces uint32) bool {
	for other := firstFace; other <= lastFace; other++ {
		if other == face || !has(faces, other) || !follows(other, face) {
			continue
		}
		if other < face || !follows(face, other) {
			return true
		}
	}
	return false
}

// Name is a face's name.
func Name(face uint8) (string, api.Errno) {
	if !isFace(face) {
		return "", api.ErrFace
	}
	return nameOf(face), api.OK
}

// Named is the face of a name.
func Named(name string) (uint8, bool) {
	for face := firstFace; face <= lastFace; face++ {
		if nameOf(face) == name {
			return face, true
		}
	}
	return 0, false
}

func isFace(n uint8) bool { return n >= firstFace && n <= lastFace }

func bit(n uint8) uint32 { return 1 << n }

func has(faces uint32, face uint8) bool { return faces&bit(face) != 0 }

// within tells whether a set has nothing that the other one has not.
func within(set, other uint32) bool { return set&^other == 0 }

func follows(one, other uint8) bool { return within(methodsOf(other), methodsOf(one)) }

// methodsOf is the set of a face's methods, of which those that are the only one of a face have its number.
func methodsOf(face uint8) uint32 {
	switch face {
	case api.FaceTimedError:
		return bit(api.FaceError) | bit(api.FaceTimer)
	case api.FaceCodedCause:
		return bit(api.FaceCoder) | bit(api.FaceOne)
	case api.FaceWhole:
		return bit(api.FaceError) | bit(api.FaceGrader) | bit(api.FaceWeigher) | bit(api.FaceTimer)
	case api.FaceNobody:
		return bit(methodNever)
	case api.FaceAny:
		return 0
	}
	return bit(face)
}

func nameOf(face uint8) string {
	names := [...]string{
		api.FaceError:      "error",
		api.FaceGrader:     "Grader",
		api.FaceCoder:      "Coder",
		api.FaceWeigher:    "Weigher",
		api.FacePhaser:     "Phaser",
		api.FaceTimer:      "Timer",
		api.FaceLiner:      "Liner",
		api.FaceDetailer:   "Detailer",
		api.FaceOne:        "One",
		api.FaceMany:       "Many",
		api.FaceJudge:      "Judge",
		api.FaceLender:     "Lender",
		api.FaceKinder:     "Kinder",
		api.FaceSizer:      "Sizer",
		api.FaceTimedError: "TimedError",
		api.FaceCodedCause: "CodedCause",
		api.FaceWhole:      "Whole",
		api.FaceNobody:     "Nobody",
		api.FaceAny:        "any",
	}
	return names[face]
}
