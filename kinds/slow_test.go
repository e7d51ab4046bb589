package kinds

// How often a Slow's make is called can't be seen from outside: here it is counted.

import (
	"runtime"
	"sync"
	"sync/atomic"
	"testing"

	"errata/api"
)

func caught(f func() string) (text string, bad any) {
	defer func() { bad = recover() }()
	return f(), nil
}

func TestP4_5SlowIsMadeOnce(t *testing.T) {
	calls := 0
	s := &Slow{}
	s.make = func() string {
		calls++
		if !s.Made() {
			t.Error("it is called, and not made")
		}
		return "text"
	}
	if s.Made() {
		t.Error("made before it was asked")
	}
	for range 3 {
		if text := s.Error(); text != "text" || calls != 1 || !s.Made() {
			t.Errorf("%q, called %d times, made %t", text, calls, s.Made())
		}
	}
}

func TestP4_5SlowPanicsOnce(t *testing.T) {
	for _, given := range []any{Note("gone"), Note(""), 7, "a string"} {
		calls := 0
		s := &Slow{make: func() string {
			calls++
			panic(given)
		}}
		for range 3 {
			if text, bad := caught(s.Error); text != "" || bad != given || calls != 1 || !s.Made() {
				t.Errorf("%q, %v, called %d times, made %t", text, bad, calls, s.Made())
			}
		}
	}
}

func TestP4_8SlowByHand(t *testing.T) {
	s := new(Slow)
	if s.Made() {
		t.Error("made before it was asked")
	}
	for range 3 {
		text, bad := caught(s.Error)
		if _, ok := bad.(runtime.Error); text != "" || !ok || !s.Made() {
			t.Errorf("%q, %v, made %t", text, bad, s.Made())
		}
	}
}

func TestP4_5SlowOfSpecs(t *testing.T) {
	for _, gives := range []bool{false, true} {
		err, e := Make(api.Spec{Kind: api.KindSlow, Text: "s", Flag: gives}, nil)
		s, ok := err.(*Slow)
		if e != api.OK || !ok || s.Made() {
			t.Fatal(e, ok)
		}
		for range 3 {
			text, bad := caught(err.Error)
			if !s.Made() || gives && (text != "" || bad != Note("s")) || !gives && (text != "s" || bad != nil) {
				t.Errorf("%q, %v, made %t", text, bad, s.Made())
			}
		}
	}
}

// TestP4_5SlowAskedByMany: whoever calls, there is one making, and all are told what came of it.
func TestP4_5SlowAskedByMany(t *testing.T) {
	for _, gives := range []bool{false, true} {
		var calls atomic.Int64
		s := &Slow{make: func() string {
			calls.Add(1)
			runtime.Gosched()
			if gives {
				panic(Note("gone"))
			}
			return "text"
		}}
		var all sync.WaitGroup
		for range 64 {
			all.Go(func() {
				text, bad := caught(s.Error)
				if !s.Made() || gives && bad != Note("gone") || !gives && (text != "text" || bad != nil) {
					t.Errorf("%q, %v, made %t", text, bad, s.Made())
				}
			})
		}
		all.Wait()
		if calls.Load() != 1 {
			t.Error("called", calls.Load(), "times")
		}
	}
}

// TestP4_5SlowWithin: neither Make nor what tells nothing of its parts asks a Slow, and all that tell of it ask it once together.
func TestP4_5SlowWithin(t *testing.T) {
	calls := 0
	s := &Slow{make: func() string {
		calls++
		return "s"
	}}
	part := []int{1}
	quiet := []api.Spec{{Kind: 13, Parts: part}, {Kind: 26, Items: []string{"n"}, Parts: part}}
	telling := []api.Spec{{Kind: 14, Parts: part}, {Kind: 15, Parts: part}, {Kind: 16, Parts: part}, {Kind: 17, Parts: part}, {Kind: 20, Parts: part}}
	var all []error
	for _, spec := range append(quiet, telling...) {
		err, e := Make(spec, []error{s})
		if e != api.OK {
			t.Fatal(spec, e)
		}
		all = append(all, err)
	}
	for _, err := range all[:len(quiet)] {
		caught(err.Error)
	}
	if calls != 0 || s.Made() {
		t.Error("called", calls, "times")
	}
	for _, err := range all[len(quiet):] {
		caught(err.Error)
		if calls != 1 || !s.Made() {
			t.Error("called", calls, "times")
		}
	}
	(&Echo{text: "s"}).Is(s)
	if calls != 1 {
		t.Error("called", calls, "times")
	}
}
