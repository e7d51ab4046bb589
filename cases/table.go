package cases

import (
	"slices"

	"errata/api"
	"errata/book"
)

// table is what a switch chooses: for no error at 0, for each kind at its number.
type table [lastKind + 1]Choice

// choices is the table of clauses. What they choose hangs on the kind alone, so one error of each kind tells it.
func choices(l []Clause) (table, api.Errno) {
	s, e := Compile(l)
	if e != api.OK {
		return table{}, e
	}
	var chosen table
	b := specimens()
	for kind := range chosen {
		chosen[kind], _ = s.Pick(b, kind)
	}
	return chosen, api.OK
}

// specimens is a book where each kind's number is the handle of an error of that kind.
func specimens() *book.Book {
	b := book.New()
	for kind := uint8(1); kind <= lastKind; kind++ {
		b.Make(specimen(kind))
	}
	return b
}

// specimen is a spec that has no more than its kind asks for.
func specimen(kind uint8) api.Spec {
	s := api.Spec{Kind: kind}
	switch kind {
	case api.KindMark:
		s.Text = "mark"
	case api.KindBox:
		s.Number = 1
	case api.KindOpaque:
		s.Items = []string{"opaque"}
	}
	return s
}

func (t table) has(c Choice) bool {
	return slices.Contains(t[:], c)
}

// choices are all that the clause, the i-th, may choose, in order.
func (clause Clause) choices(i int) []Choice {
	if clause.Default {
		return []Choice{{Clause: i, Term: byDefault, To: clause.To}}
	}
	var all []Choice
	for k := range clause.Terms {
		all = append(all, Choice{Clause: i, Term: k, To: clause.To})
	}
	return all
}

// leadsAs says whether both lead to the same, or neither anywhere.
func (c Choice) leadsAs(other Choice) bool {
	return c.To == other.To && (c.Clause == nowhere) == (other.Clause == nowhere)
}
