package cases

import (
	"slices"

	"errata/api"
)

const (
	lastKind = api.KindOpaque
	lastFace = api.FaceAny
)

func tooMany(l []Clause) bool {
	if len(l) > MaxClauses {
		return true
	}
	terms := 0
	for _, clause := range l {
		terms += len(clause.Terms)
	}
	return terms > MaxTerms
}

// checker knows what stood in the clauses that it was shown.
type checker struct {
	terms      []Term
	hasDefault bool
}

// check says what is wrong with the next clause.
func (c *checker) check(clause Clause) api.Errno {
	if clause.Default == (len(clause.Terms) > 0) || slices.ContainsFunc(clause.Terms, isNone) {
		return api.ErrCase
	}
	if clause.Default && c.hasDefault {
		return api.ErrAgain
	}
	c.hasDefault = c.hasDefault || clause.Default
	for _, t := range clause.Terms {
		if slices.Contains(c.terms, t) {
			return api.ErrAgain
		}
		c.terms = append(c.terms, t)
	}
	return api.OK
}

// isNone says whether a term asks for none of the three: a kind, a face, no error.
func isNone(t Term) bool {
	return t.Kind > lastKind || t.Face > lastFace || t.Kind != 0 && t.Face != 0
}
