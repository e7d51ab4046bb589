package probe

import (
	"errata/api"
	"errata/book"
)

// checker knows what an op is held against: a book, and how many ops the program has.
type checker struct {
	book *book.Book
	ops  int
}

func (c checker) mayBe(op api.Op) bool {
	switch op.Code {
	case api.OpLoad, api.OpSame:
		return c.isHandle(op.H)
	case api.OpKind, api.OpMustKind:
		return isKind(op.What)
	case api.OpFace, api.OpMustFace, api.OpPart:
		return isFace(op.What)
	case api.OpCall:
		return isFace(op.What) && (op.What != api.FaceJudge || c.isHandle(op.H))
	case api.OpJump, api.OpIf, api.OpCatch:
		return c.isPlace(op.N)
	case api.OpSwitch:
		return c.isPlace(op.N) && c.clausesMayBe(op.Cases)
	case api.OpNil, api.OpPush, api.OpPop, api.OpDone, api.OpPanic, api.OpHalt:
		return true
	}
	return false
}

func (c checker) clausesMayBe(clauses []api.Clause) bool {
	for _, clause := range clauses {
		if !c.isPlace(clause.To) || !mayAsk(clause) {
			return false
		}
	}
	return true
}

// mayAsk tells whether a clause asks for one thing: a kind, a face, or, with neither, no error.
func mayAsk(clause api.Clause) bool {
	switch {
	case clause.Kind == 0:
		return clause.Face == 0 || isFace(clause.Face)
	case clause.Face == 0:
		return isKind(clause.Kind)
	}
	return false
}

func (c checker) isHandle(h int) bool {
	_, e := c.book.Error(h)
	return e == api.OK
}

// isPlace tells whether a program may go on at n; the place behind the last op is one.
func (c checker) isPlace(n int) bool { return 0 <= n && n <= c.ops }

func isKind(n uint8) bool { return api.KindCode <= n && n <= api.KindOpaque }

func isFace(n uint8) bool { return api.FaceError <= n && n <= api.FaceAny }
