package cases_test

import (
	"reflect"
	"testing"

	"errata/api"
	"errata/cases"
	"errata/kinds"
)

// TestR3WhatIsHandedInStays: clauses are as they were, with the room behind their lists' ends.
func TestR3WhatIsHandedInStays(t *testing.T) {
	clauses := func() []cases.Clause {
		room := []cases.Term{kind(1), face(1), kind(2), kind(77)}
		return []cases.Clause{when(1, face(18)), when(2, room[:3]...), other(3), when(4, kind(77))}
	}
	all := clauses()
	l := all[:3]
	b := tree(t)
	cases.Check(l)
	cases.Pick(b, 4, l)
	cases.Bound(l, 1)
	cases.Table(l)
	cases.Dead(l)
	cases.Trim(l)
	cases.Same(l, l)
	s, _ := cases.Compile(l)
	cases.Fold(b, 4, s, tellers(s))
	want := clauses()
	if !reflect.DeepEqual(all, want) || !reflect.DeepEqual(all[1].Terms[:4], want[1].Terms[:4]) {
		t.Error("what was handed in is now", all)
	}
}

// TestR3WhatIsHandedOutIsNew: who changes what was told, or the room behind it, changes nothing else.
func TestR3WhatIsHandedOutIsNew(t *testing.T) {
	l := []cases.Clause{when(1, kind(2), face(18), kind(1)), when(2, kind(3), kind(4), kind(5)), when(3, face(17)), other(4)}
	dead, _ := cases.Dead(l)
	clear(dead[:cap(dead)])
	sayDead(t, l, choice(0, 1, 1), choice(2, 0, 3))
	want := []cases.Clause{when(1, kind(2), kind(1)), when(2, kind(3), kind(4), kind(5)), other(4)}
	for i := range want {
		kept, _ := cases.Trim(l)
		terms := kept[i].Terms
		clear(terms[:cap(terms)])
		kept[i] = want[i]
		if !sameClauses(kept, want) {
			t.Error("lists are shared:", kept)
		}
		clear(kept[:cap(kept)])
	}
	sayTrim(t, l, want)
}

// TestR7NotMade: a Slow is made by the first call of its Error, and nothing here is one; of what panics when it is called nothing is called.
func TestR7NotMade(t *testing.T) {
	b := tree(t)
	slow := give(t, b, api.Spec{Kind: api.KindSlow, Text: "s"})
	parts := []int{
		slow, give(t, b, api.Spec{Kind: api.KindVeil}, slow), give(t, b, api.Spec{Kind: api.KindTimed}, slow), give(t, b, api.Spec{Kind: api.KindEcho, Flag: true}),
		give(t, b, api.Spec{Kind: api.KindLazy, Flag: true}), give(t, b, api.Spec{Kind: api.KindGuise, Nil: true}), give(t, b, api.Spec{Kind: api.KindTimed}),
	}
	top := give(t, b, api.Spec{Kind: api.KindJoin}, parts...)
	l := []cases.Clause{when(1, face(18), face(11), face(12), face(10), face(6), face(15)), when(2, kind(24), noError, face(1))}
	s := compiled(t, l...)
	for _, h := range append(parts, top) {
		cases.Pick(b, h, l)
		s.Pick(b, h)
		cases.Fold(b, h, s, tellers(s))
	}
	made, ok := errorOf(t, b, slow).(*kinds.Slow)
	if !ok || made.Made() {
		t.Error("no Slow, or its Error was called")
	}
}
