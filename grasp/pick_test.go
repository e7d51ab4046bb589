package grasp_test

import (
	"errors"
	"slices"
	"testing"

	"errata/api"
	"errata/grasp"
	"errata/kinds"
)

func TestP10_3Pick(t *testing.T) {
	b := example(t)
	if got, e := grasp.Pick[kinds.Code](b, []int{1, 4, 1, 0, 3}); !slices.Equal(got, []kinds.Code{5, 5}) || e != api.OK {
		t.Error("the example:", got, e)
	}
	if got, e := grasp.Pick[*kinds.Wrap](b, []int{9, 8, 3, 6, 9}); len(got) != 4 || got[0] != nil || got[1] != errorOf(t, b, 3) || got[2] != errorOf(t, b, 6) || got[3] != nil || e != api.OK {
		t.Error("Wraps:", got, e)
	}
	if got, e := grasp.Pick[api.Kinder](b, []int{2, 3, 1, 2}); !slices.Equal(got, []api.Kinder{kinds.Note("n"), kinds.Code(5), kinds.Note("n")}) || e != api.OK {
		t.Error("Kinders:", got, e)
	}
	for _, row := range [][]int{nil, {}, {0}, {0, 0, 0}, {2, 3, 4}} {
		if got, e := grasp.Pick[kinds.Code](b, row); len(got) != 0 || e != api.OK {
			t.Error("none of", row, "is a Code:", got, e)
		}
	}
	if got, e := grasp.Pick[any](b, []int{0, 5, 0, 1}); len(got) != 2 || told(got[0]) != told(errorOf(t, b, 5)) || got[1] != kinds.Code(5) || e != api.OK {
		t.Error("of any:", got, e)
	}
}

func TestP10_3Over(t *testing.T) {
	b := example(t)
	var yeses []kinds.Code
	var noes []error
	yes := func(c kinds.Code) int { yeses = append(yeses, c); return 10 + int(c) }
	no := func(err error) int { noes = append(noes, err); return -len(noes) }
	for h, want := range map[int]int{1: 15, 3: -1} {
		if n, e := grasp.Over(b, h, yes, no); n != want || e != api.OK {
			t.Errorf("Over(%d): %d %d, not %d", h, n, e, want)
		}
	}
	if !slices.Equal(yeses, []kinds.Code{5}) || len(noes) != 1 || noes[0] != errorOf(t, b, 3) {
		t.Error("what they were called with:", yeses, noes)
	}
	if n, e := grasp.Over(b, 0, yes, no); n != -2 || e != api.OK || len(yeses) != 1 || noes[1] != nil {
		t.Error("Over(0):", n, e, yeses, noes)
	}
	anyOf := func(any) string { return "any" }
	none := func(err error) string { return "no error" }
	if s, e := grasp.Over(b, 5, anyOf, none); s != "any" || e != api.OK {
		t.Error("Over(5) of any:", s, e)
	}
	if s, e := grasp.Over(b, 0, anyOf, none); s != "no error" || e != api.OK {
		t.Error("Over(0) of any:", s, e)
	}
}

// TestP10_3OverNil: just the one that would be called must be there.
func TestP10_3OverNil(t *testing.T) {
	b := example(t)
	calls := 0
	yes := func(kinds.Code) *int { calls++; return &calls }
	no := func(error) *int { calls++; return &calls }
	for _, c := range []struct {
		h   int
		yes func(kinds.Code) *int
		no  func(error) *int
		e   api.Errno
	}{
		{1, yes, nil, api.OK}, {1, nil, no, api.ErrNil}, {1, nil, nil, api.ErrNil},
		{2, yes, nil, api.ErrNil}, {2, nil, no, api.OK}, {2, nil, nil, api.ErrNil},
		{0, yes, nil, api.ErrNil}, {0, nil, no, api.OK}, {0, nil, nil, api.ErrNil},
	} {
		calls = 0
		got, e := grasp.Over(b, c.h, c.yes, c.no)
		if e != c.e || (got != nil) != (e == api.OK) || (calls == 1) != (e == api.OK) {
			t.Errorf("Over(%d): %v %d, %d calls", c.h, got, e, calls)
		}
	}
}

// TestP10_3OverPanics: what the caller's own functions give up with is the caller's affair.
func TestP10_3OverPanics(t *testing.T) {
	b := example(t)
	mine := errors.New("mine")
	giveUp := func() int { panic(mine) }
	for _, h := range []int{0, 1} {
		func() {
			defer func() {
				if bad := recover(); bad != mine {
					t.Errorf("Over(%d) gives up with %v", h, bad)
				}
			}()
			_, _ = grasp.Over(b, h, func(kinds.Code) int { return giveUp() }, func(error) int { return giveUp() })
			t.Errorf("Over(%d) ends", h)
		}()
	}
}

// TestP10_3OverTurns: what they do may be done with the book itself, and be another Over.
func TestP10_3OverTurns(t *testing.T) {
	b := example(t)
	wrapped := func(err error) int { return give(t, b, api.Spec{Kind: api.KindWrap}, b.Len()) }
	n, e := grasp.Over(b, 4, func(kinds.Code) int { return 0 }, func(err error) int {
		h, _ := grasp.Over(b, 2, func(kinds.Code) int { return 0 }, wrapped)
		nodes, _ := grasp.Nodes(b, h)
		return len(nodes)
	})
	if n != 3 || e != api.OK || b.Len() != 11 {
		t.Error("Over within Over:", n, e, b.Len())
	}
}
