package place_test

import (
	"math/rand"
	"strings"
	"testing"

	"errata/api"
	"errata/place"
)

func TestP3_2Text(t *testing.T) {
	for l, want := range map[string]string{
		"": "", "main:1 f:20 g:3": "g:3 < f:20 < main:1", "m:0": "m:0", "m:1048576 <:10": "<:10 < m:1048576", "a:1 b:2": "b:2 < a:1", "b:2 a:1": "a:1 < b:2",
	} {
		s, e := place.Text(places(l))
		if s != want || e != api.OK {
			t.Errorf("%s: %q %d", l, s, e)
		}
		back, e := place.Parse(want)
		if written(back) != l || e != api.OK {
			t.Errorf("%q: %s %d", want, written(back), e)
		}
	}
	for _, c := range noStacks() {
		if s, e := place.Text(c.l); s != "" || e != c.e {
			t.Errorf("%d places: %q %d, and not %d", len(c.l), s, e, c.e)
		}
	}
}

func TestP3_2ParseOfNoText(t *testing.T) {
	for _, s := range []string{
		"g", "g:", ":3", ":", "g:03", "g:00", "g:+3", "g:-0", "g:-1", "g:3 ", " g:3", "g:3\n", "g:3 <f:20", "g:3< f:20", "g:3<f:20", "g:3 < ", " < g:3", " < ", "<", " ",
		"g:3 <  f:20", "g:3  < f:20", "g:3 < < f:20", "g:3 < f", "f < g:3", "g:3 > f:20", "g:3, f:20", "g:3 < f:20 <", "g:3:4", "g::3", "a b:3", "g:3a", "g:a3", "g:0x3", "g:1_0", "g:1e3", "g: 3", "g :3",
		"g:1048577", "g:9999999", "g:10485760", "g:99999999999999999999", "g:18446744073709551617", "g:4294967297", "\xff:3", "é:3", "g\x00:3", "g\x7f:3", "g:３", "g:٣", strings.Repeat("n", 121) + ":1", "f:1 < " + strings.Repeat("n", 121) + ":1",
		"g:3\tf:20", "g:3\n< f:20", "g:3 <\nf:20", "\"g\":3 f", "g:" + strings.Repeat("0", 1000), strings.Repeat("g:1 < ", 1000) + "g", strings.Repeat(" < ", 70), strings.Repeat("a", 1<<16),
	} {
		l, e := place.Parse(s)
		if len(l) != 0 || e != api.ErrForm {
			t.Errorf("%q: %s %d", s, written(l), e)
		}
		if _, ok := readText(s); ok {
			t.Errorf("%q: a stack's text, says the chapter", s)
		}
	}
}

func TestP3_2ParseAtTheBounds(t *testing.T) {
	for n := 60; n < 70; n++ {
		s := strings.Repeat("f:1 < ", n-1) + "m:0"
		l, e := place.Parse(s)
		if n <= 64 && (e != api.OK || len(l) != n || l[0].Name != "m" || l[n-1].Name != "f") || n > 64 && (e != api.ErrForm || len(l) != 0) {
			t.Errorf("%d places: %d, %d places", n, e, len(l))
		}
	}
	for s, want := range map[string]api.Errno{
		strings.Repeat("n", 1) + ":1": api.OK, strings.Repeat("n", 120) + ":1": api.OK, strings.Repeat("n", 121) + ":1": api.ErrForm,
		"f:0": api.OK, "f:1048576": api.OK, "f:1048577": api.ErrForm, "!:1": api.OK, "~:1": api.OK, " :1": api.ErrForm, "\x7f:1": api.ErrForm,
	} {
		if _, e := place.Parse(s); e != want {
			t.Errorf("%q: %d", s, e)
		}
	}
}

// Each text near to a stack's own is held against the chapter's word of it.
func TestP3_2ParseNearby(t *testing.T) {
	r := rand.New(rand.NewSource(32))
	bits := []string{" ", "<", ":", "0", "1", "9", "a", " < ", "~", "\x7f", "\x00", "\xff", "-", "+", "\n", "a:1", "1048577"}
	stacks := 0
	for range 30000 {
		s, _ := place.Text(someStack(r, 4))
		for range r.Intn(4) {
			i := r.Intn(len(s) + 1)
			j := min(len(s), i+r.Intn(3))
			s = s[:i] + bits[r.Intn(len(bits))] + s[j:]
		}
		want, ok := readText(s)
		l, e := place.Parse(s)
		if ok {
			stacks++
		}
		if ok != (e == api.OK) || !ok && e != api.ErrForm || written(l) != written(want) && ok || !ok && len(l) != 0 {
			t.Fatalf("%q: %s %d, and not %s %v", s, written(l), e, written(want), ok)
		}
	}
	if stacks < 3000 || stacks > 27000 {
		t.Errorf("%d of them were stacks' texts", stacks)
	}
}

func TestP3_8ParseOfText(t *testing.T) {
	for _, l := range someStacks() {
		s, e := place.Text(l)
		back, f := place.Parse(s)
		if e != api.OK || f != api.OK || written(back) != written(l) {
			t.Errorf("%s: %q %d, %s %d", written(l), s, e, written(back), f)
		}
	}
}
