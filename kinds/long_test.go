package kinds_test

import (
	"math"
	"math/rand"
	"slices"
	"strings"
	"testing"

	"errata/api"
	"errata/kinds"
)

func TestP4_9Examples(t *testing.T) {
	const top = api.MaxText + 1
	for _, x := range []struct {
		s     api.Spec
		parts []int
		long  int
	}{
		{api.Spec{Kind: 14, Text: "ab", Parts: []int{3}}, []int{10}, 14},
		{api.Spec{Kind: 14, Text: "ab", Parts: []int{3}}, []int{0}, 4},
		{api.Spec{Kind: 14, Text: "ab", Parts: []int{3}}, []int{-1}, 4},
		{api.Spec{Kind: 14, Text: "ab", Parts: []int{3}}, []int{math.MinInt}, 4},
		{api.Spec{Kind: 14, Text: "ab", Parts: []int{3}}, nil, 4},
		{api.Spec{Kind: 14, Text: "ab", Parts: []int{3}}, []int{10, 99, 99}, 14},
		{api.Spec{Kind: 14, Text: "ab", Parts: []int{-3}}, []int{10}, 14},
		{api.Spec{Kind: 14, Text: "ab", Parts: []int{0}}, []int{10}, 2},
		{api.Spec{Kind: 14, Text: "ab"}, []int{10}, 2},
		{api.Spec{Kind: 14, Parts: []int{1}}, []int{api.MaxText}, api.MaxText + 2},
		{api.Spec{Kind: 14, Parts: []int{1}}, []int{api.MaxText + 1}, top + 2},
		{api.Spec{Kind: 14, Parts: []int{1}}, []int{api.MaxText + 2}, top + 2},
		{api.Spec{Kind: 14, Parts: []int{1}}, []int{math.MaxInt}, top + 2},
		{api.Spec{Kind: 14, Nil: true}, []int{5}, 0},
		{api.Spec{Kind: 15, Text: "abc", Parts: []int{1}}, []int{4}, 9},
		{api.Spec{Kind: 7, Text: "ab", Flag: true}, nil, 0},
		{api.Spec{Kind: 7, Text: "ab"}, nil, 2},
		{api.Spec{Kind: 24, Text: "ab", Flag: true}, nil, 0},
		{api.Spec{Kind: 24, Text: "ab"}, nil, 2},
		{api.Spec{Kind: 21, Text: "ab", Flag: true}, nil, 2},
		{api.Spec{Kind: 10, Text: "ab", Flag: true}, nil, 2},
		{api.Spec{Kind: 10}, nil, 0},
		{api.Spec{Kind: 16, Parts: []int{1, 0, 2}}, []int{3, 9, 4}, 8},
		{api.Spec{Kind: 16, Parts: []int{1, 0, 2}}, []int{3}, 4},
		{api.Spec{Kind: 16, Parts: []int{1, -5, 2}}, []int{-3, 0, math.MaxInt}, top + 2},
		{api.Spec{Kind: 16, Parts: []int{0, 0, 0}}, []int{1, 1, 1}, 0},
		{api.Spec{Kind: 16, Parts: []int{7}}, []int{5}, 5},
		{api.Spec{Kind: 16}, []int{5}, 0},
		{api.Spec{Kind: 16, Parts: slices.Repeat([]int{1}, 64)}, slices.Repeat([]int{math.MaxInt}, 64), 64*top + 63},
		{api.Spec{Kind: 16, Parts: slices.Repeat([]int{1}, 65)}, slices.Repeat([]int{1}, 65), 0},
		{api.Spec{Kind: 17, Parts: []int{2}}, []int{5}, 5},
		{api.Spec{Kind: 17, Parts: []int{0}}, []int{5}, 0},
		{api.Spec{Kind: 17}, []int{5}, 0},
		{api.Spec{Kind: 18, Number: 9, Parts: []int{2}}, []int{5}, 5},
		{api.Spec{Kind: 18, Number: 9, Parts: []int{0}}, []int{5}, 0},
		{api.Spec{Kind: 18, Number: 9}, []int{5}, 0},
		{api.Spec{Kind: 20, Parts: []int{2}}, []int{5}, 11},
		{api.Spec{Kind: 20, Parts: []int{0}}, []int{5}, 4},
		{api.Spec{Kind: 20}, []int{5}, 4},
		{api.Spec{Kind: 13, Text: "abc", Parts: []int{2}}, []int{5}, 3},
		{api.Spec{Kind: 25, Number: 1, Text: "abc", Parts: []int{2}}, []int{5}, 9},
		{api.Spec{Kind: 25}, nil, 6},
		{api.Spec{Kind: 26, Text: "abc", Items: []string{"n"}, Parts: []int{2, 3}}, []int{5, 6}, 3},
		{api.Spec{Kind: 1, Number: -300}, nil, 9},
		{api.Spec{Kind: 3, Re: math.NaN()}, nil, 9},
		{api.Spec{Kind: 4, Re: 1, Im: -2}, nil, 15},
		{api.Spec{Kind: 5, Text: "\xff\x00ab"}, nil, 13},
		{api.Spec{Kind: 6, Items: []string{"b", "a", "b"}, Number: 7}, nil, 12},
		{api.Spec{Kind: 8}, nil, 4},
		{api.Spec{Kind: 19, Number: 10, Re: 0.5}, nil, 11},
		{api.Spec{Kind: 23, Number: 1, Small: -128}, nil, 8},
		{api.Spec{Kind: 23, Number: 2, Re: math.Inf(1)}, nil, 8},
		{api.Spec{Kind: 23, Number: 3, Text: "abc"}, nil, 7},
		{api.Spec{Kind: 27, Text: "abc"}, nil, 0},
		{api.Spec{Kind: 2, Text: "abc", Number: 1}, nil, 0},
		{api.Spec{Kind: 2, Text: "abc", Parts: []int{0}}, nil, 0},
		{api.Spec{Kind: 2, Text: strings.Repeat("w", api.MaxWord+1)}, nil, 0},
	} {
		if n := kinds.Long(x.s, x.parts); n != x.long {
			t.Errorf("Long(%+v, %v): %d, not %d", x.s, x.parts, n, x.long)
		}
	}
}

// TestP4_9IsWhatErrorTells holds the lengths against the texts themselves; where Error panics by itself there is none.
func TestP4_9IsWhatErrorTells(t *testing.T) {
	draw := rand.New(rand.NewSource(9))
	for _, r := range rows() {
		for range 200 {
			s, parts := r.drawn(draw)
			var lengths []int
			for _, part := range parts {
				n := draw.Intn(99) // of no error: it doesn't count
				if part != nil {
					n = len(part.Error())
				}
				lengths = append(lengths, n)
			}
			text, _ := asked(made(s, parts...).Error)
			if n := kinds.Long(s, lengths); n != len(text) {
				t.Errorf("%s: Long %d of a text of %d bytes: %+v, %v", r.name, n, len(text), s, lengths)
			}
		}
		if r.isNil {
			text, _ := asked(made(r.nothing()).Error)
			if n := kinds.Long(r.nothing(), []int{4, 5}); n != len(text) {
				t.Errorf("a nil %s: Long %d of %q", r.name, n, text)
			}
		}
	}
}

// TestP4_9WhateverItsPartsDo: a part that panics has a length all the same.
func TestP4_9WhateverItsPartsDo(t *testing.T) {
	for kind, long := range map[uint8]int{13: 0, 14: 9, 15: 9, 16: 7, 17: 7, 18: 7, 20: 13, 25: 6} {
		if n := kinds.Long(api.Spec{Kind: kind, Parts: []int{1}}, []int{7}); n != long {
			t.Errorf("kind %d: %d, not %d", kind, n, long)
		}
	}
}
