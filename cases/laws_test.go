package cases_test

import (
	"math/rand"
	"slices"
	"testing"

	"errata/api"
	"errata/cases"
)

// TestP9_8Trim: what was trimmed is a switch, is the Same, and has nothing dead; trimming it once more changes nothing.
func TestP9_8Trim(t *testing.T) {
	draw := rand.New(rand.NewSource(98))
	less := 0
	for range 2000 {
		l := drawn(draw)
		kept, e := cases.Trim(l)
		if e != api.OK {
			t.Fatalf("Trim(%v): %d", l, e)
		}
		sayRight(t, kept)
		saySame(t, l, kept, true)
		sayDead(t, kept)
		sayTrim(t, kept, kept)
		if !sameClauses(l, kept) {
			less++
		}
		if t.Failed() {
			return
		}
	}
	if less < 500 {
		t.Error("how many were trimmed at all:", less)
	}
}

// TestP9_8Alive: a term chooses for some kind or for no error just if it is not dead.
func TestP9_8Alive(t *testing.T) {
	b := allKinds(t)
	draw := rand.New(rand.NewSource(980))
	for range 100 {
		l := drawn(draw)
		dead, _ := cases.Dead(l)
		var chose []cases.Choice
		for h := range b.Len() + 1 {
			c, _ := cases.Pick(b, h, l)
			if slices.Contains(dead, c) {
				t.Fatalf("%v of %v is dead, and chosen for %d", c, l, h)
			}
			if c != nothing && !slices.Contains(chose, c) {
				chose = append(chose, c)
			}
		}
		all := 0
		for _, clause := range l {
			all += max(len(clause.Terms), 1)
		}
		if len(chose)+len(dead) != all {
			t.Fatalf("of %v are dead %v, and chose %v", l, dead, chose)
		}
	}
}

// TestP9_8Counted: functions that count tell the size, where something is chosen for every kind.
func TestP9_8Counted(t *testing.T) {
	b := allKinds(t)
	draw := rand.New(rand.NewSource(981))
	counted := 0
	for range 60 {
		l := drawn(draw)
		table, _ := cases.Table(l)
		if slices.Contains(table[1:], -1) {
			continue
		}
		counted++
		s := compiled(t, l...)
		do := slices.Repeat([]func(int, []int) int{count}, s.Len())
		for h := 1; h <= b.Len(); h++ {
			size, _ := b.Size(h)
			if n, e := cases.Fold(b, h, s, do); n != size || e != api.OK {
				t.Fatalf("Fold(%d): %d %d, the size is %d", h, n, e, size)
			}
		}
	}
	if counted < 10 {
		t.Error("switches that choose for every kind:", counted)
	}
}
