package probe_test

import (
	"reflect"
	"slices"
	"testing"
	"unsafe"

	"errata/api"
	"errata/book"
	"errata/probe"
)

// TestR3WhatIsHandedInStays: a program is as it was, with the room behind its lists' ends, and is not kept.
func TestR3WhatIsHandedInStays(t *testing.T) {
	b := example(t)
	program := func() []api.Op {
		cases := []api.Clause{{Kind: 2, To: 0}, {Face: 2, To: 2}, {Kind: 7, Face: 7, To: 77}}
		return []api.Op{load(1), choose(0, cases[:2]...), isNil, {Code: 77}}
	}
	code := program()
	outs, _, _, _ := probe.Run(b, code[:3])
	probe.Check(b, code[:3])
	if !reflect.DeepEqual(code, program()) || !reflect.DeepEqual(code[1].Cases[:3], program()[1].Cases[:3]) {
		t.Error("what was handed in is now", code)
	}
	clear(code[1].Cases)
	clear(code)
	if len(outs) != 1 || outs[0].At != 2 {
		t.Error("who handed a program in changed what was told:", outs)
	}
}

// TestR3WhatIsHandedOutIsNew: who changes what was told changes nothing else.
func TestR3WhatIsHandedOutIsNew(t *testing.T) {
	b := book.New()
	give(t, b, api.Spec{Kind: api.KindBag, Text: "bag", Items: []string{"item a", "item b"}})
	code := []api.Op{load(1), call(api.FaceDetailer), call(api.FaceDetailer), call(api.FaceError)}
	first, _, _, _ := probe.Run(b, code)
	second, _, _, _ := probe.Run(b, code)
	details := list(words("item a"), words("item b"))
	want := []api.Out{told(1, details), told(2, details), told(3, words("bag"))}
	for _, v := range first[0].Value.List[:cap(first[0].Value.List)] {
		v.Text = "spoilt"
	}
	_ = append(first[0].Value.List, words("spoilt"))
	first[0].Value.List[0] = words("spoilt")
	if !slices.EqualFunc(first[1:], want[1:], sameOut) || !slices.EqualFunc(second, want, sameOut) {
		t.Error("lists are shared:", first, second)
	}
	clear(first[:cap(first)])
	sayRun(t, b, code, want, api.EndHalt, 4)
}

// TestR3Words: no text that is told shares memory with another one, or with what the book has.
func TestR3Words(t *testing.T) {
	b := book.New()
	give(t, b, api.Spec{Kind: api.KindBag, Text: "bag", Items: []string{"item a", "item b"}})
	give(t, b, api.Spec{Kind: api.KindEcho, Text: "echo", Flag: true})
	all := []string{errorOf(t, b, 1).Error(), errorOf(t, b, 2).Error()}
	all = append(all, errorOf(t, b, 1).(api.Detailer).Details()...)
	for range 2 {
		text, _, _ := probe.Call(b, 1, api.FaceError, 0, 0)
		details, _, _ := probe.Call(b, 1, api.FaceDetailer, 0, 0)
		_, p, _ := probe.Call(b, 2, api.FaceJudge, 0, 0)
		all = append(all, text.Text, details.List[0].Text, details.List[1].Text, p.Word)
	}
	var starts []*byte
	for _, s := range all {
		if slices.Contains(starts, unsafe.StringData(s)) {
			t.Errorf("the word %q is shared", s)
		}
		starts = append(starts, unsafe.StringData(s))
	}
}
