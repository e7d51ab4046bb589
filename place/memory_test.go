package place_test

import (
	"testing"
	"unsafe"

	"errata/api"
	"errata/place"
)

// roomy is a list with room behind its end, and all of the memory under it.
func roomy(s string) (l, whole []place.Place) {
	whole = append(places(s), places("room:1 room:2 room:3")...)
	return whole[: len(whole)-3 : len(whole)], whole
}

func sayUntouched(t *testing.T, whole []place.Place, s string) {
	t.Helper()
	want := s + " room:1 room:2 room:3"
	if written(whole) != want {
		t.Errorf("what was handed in is now %s, and was %s", written(whole), want)
	}
}

// spoil writes over a list, its spare room too.
func spoil(l []place.Place) {
	l = l[:cap(l)]
	for i := range l {
		l[i] = place.Place{Name: "spoilt", Line: 7}
	}
}

func sayApart(t *testing.T, a, b []place.Place) {
	t.Helper()
	for _, p := range a {
		for _, q := range b {
			if p.Name != "" && unsafe.StringData(p.Name) == unsafe.StringData(q.Name) {
				t.Errorf("two lists share the name %s", p.Name)
			}
		}
	}
	spoil(a)
	for _, p := range b {
		if p.Name == "spoilt" {
			t.Errorf("two lists share their memory")
		}
	}
}

func TestR3WhatIsHandedInStays(t *testing.T) {
	s := "m:1 f:2 f:2 lib.a:3"
	l, whole := roomy(s)
	prefixes := []string{"lib.", "x"}
	place.Check(l)
	place.Text(l)
	place.Common(l, l[:2])
	trimmed, e := place.Trim(l, prefixes)
	runs, f := place.Fold(l)
	tr := place.New()
	n, g := tr.Add(l)
	if e != api.OK || f != api.OK || g != api.OK {
		t.Fatal(e, f, g)
	}
	sayUntouched(t, whole, s)
	if prefixes[0] != "lib." || prefixes[1] != "x" {
		t.Errorf("the prefixes are now %q", prefixes)
	}
	sayApart(t, trimmed, whole)
	for i := range runs {
		sayApart(t, runs[i].Places, whole)
	}
	stack, _ := tr.Stack(n)
	sayApart(t, stack, whole)
	stack, _ = tr.Stack(n)
	other, _ := tr.Stack(n)
	sayApart(t, stack, other)
	if again, _ := tr.Stack(n); written(again) != s {
		t.Errorf("who was handed a stack changed the tree: %s", written(again))
	}
	spoil(whole)
	if again, _ := tr.Stack(n); written(again) != s {
		t.Errorf("who handed a stack in changed the tree: %s", written(again))
	}
}

func TestR3TrimKeepsNothing(t *testing.T) {
	for _, prefixes := range [][]string{nil, {"f"}, {""}} {
		l, whole := roomy("m:1 f:2")
		out, e := place.Trim(l, prefixes)
		if e != api.OK {
			t.Fatal(e)
		}
		sayApart(t, out, whole)
		sayUntouched(t, whole, "m:1 f:2")
	}
}

func TestR3RunsShareNothing(t *testing.T) {
	runs, e := place.Fold(letters("xyaabcabcabcz"))
	if e != api.OK || len(runs) != 4 {
		t.Fatal(e, writtenRuns(runs))
	}
	for i := range runs {
		for j := range runs {
			if i != j {
				a, _ := place.Fold(letters("xyaabcabcabcz"))
				sayApart(t, a[i].Places, a[j].Places)
			}
		}
	}
	in, whole := roomy("a:1 b:1")
	twice := []place.Run{{Places: in, Times: 2}, {Places: in, Times: 1}}
	out, e := place.Unfold(twice)
	if written(out) != "a:1 b:1 a:1 b:1 a:1 b:1" || e != api.OK {
		t.Errorf("%s %d", written(out), e)
	}
	sayApart(t, out, whole)
	sayUntouched(t, whole, "a:1 b:1")
	if twice[0].Times != 2 || twice[1].Times != 1 {
		t.Errorf("the runs are now %v", twice)
	}
}

func TestR3ParseKeepsNothing(t *testing.T) {
	s := "g:3 < f:20"
	l, e := place.Parse(s)
	if e != api.OK {
		t.Fatal(e)
	}
	low, high := uintptr(unsafe.Pointer(unsafe.StringData(s))), uintptr(unsafe.Pointer(unsafe.StringData(s)))+uintptr(len(s))
	for _, p := range l {
		if at := uintptr(unsafe.Pointer(unsafe.StringData(p.Name))); at >= low && at < high {
			t.Errorf("%s is kept in the text", p.Name)
		}
	}
}
