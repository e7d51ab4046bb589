package place_test

import (
	"math"
	"strings"
	"testing"

	"errata/api"
	"errata/place"
)

// illPlaces may not be.
func illPlaces() []place.Place {
	ill := []place.Place{
		{}, {Name: "", Line: 1}, {Name: strings.Repeat("n", 121)}, {Name: strings.Repeat("n", 121), Line: 1}, {Name: strings.Repeat("n", 1<<16), Line: 1},
		{Name: "f", Line: -1}, {Name: "f", Line: 1048577}, {Name: "f", Line: math.MinInt}, {Name: "f", Line: math.MaxInt}, {Name: "f", Line: 1 << 32},
		{Name: "a b", Line: 1}, {Name: ":", Line: 1}, {Name: "é", Line: 1}, {Name: "f:1", Line: 1},
	}
	for b := range 256 {
		if b < 0x21 || b > 0x7e || b == 0x3a {
			for _, name := range []string{"", "f"} {
				ill = append(ill, place.Place{Name: name + string([]byte{byte(b)}), Line: 1}, place.Place{Name: string([]byte{byte(b)}) + name, Line: 1})
			}
		}
	}
	return ill
}

func TestP3_1Check(t *testing.T) {
	for _, l := range someStacks() {
		if e := place.Check(l); e != api.OK {
			t.Errorf("%s: %d", written(l), e)
		}
	}
	for _, p := range illPlaces() {
		for _, l := range [][]place.Place{{p}, append(chain(1), p), append([]place.Place{p}, chain(1)...), append(chain(63), p)} {
			if e := place.Check(l); e != api.ErrPlace {
				t.Errorf("%#v at the end or the beginning of %d: %d", p, len(l), e)
			}
		}
	}
}

func TestP3_1CheckNames(t *testing.T) {
	for b := range 256 {
		for _, name := range []string{string([]byte{byte(b)}), "a" + string([]byte{byte(b)}), string([]byte{byte(b)}) + "a"} {
			want := api.ErrPlace
			if b >= 0x21 && b <= 0x7e && b != 0x3a {
				want = api.OK
			}
			if e := place.Check([]place.Place{{Name: name, Line: 1}}); e != want {
				t.Errorf("%q: %d", name, e)
			}
		}
	}
	for n, want := range map[int]api.Errno{0: api.ErrPlace, 1: api.OK, 2: api.OK, 119: api.OK, 120: api.OK, 121: api.ErrPlace, 240: api.ErrPlace} {
		if e := place.Check([]place.Place{{Name: strings.Repeat("~", n), Line: 1}}); e != want {
			t.Errorf("a name of %d bytes: %d", n, e)
		}
	}
}

func TestP3_1CheckLines(t *testing.T) {
	for n, want := range map[int]api.Errno{math.MinInt: api.ErrPlace, -1: api.ErrPlace, 0: api.OK, 1: api.OK, 1048575: api.OK, 1048576: api.OK, 1048577: api.ErrPlace, math.MaxInt: api.ErrPlace} {
		if e := place.Check([]place.Place{{Name: "f", Line: n}}); e != want {
			t.Errorf("the line %d: %d", n, e)
		}
	}
}

func TestP3_1CheckHowMany(t *testing.T) {
	for n, want := range map[int]api.Errno{0: api.OK, 1: api.OK, 63: api.OK, 64: api.OK, 65: api.ErrStack, 1000: api.ErrStack} {
		if e := place.Check(chain(n)); e != want {
			t.Errorf("%d places: %d", n, e)
		}
	}
	for _, at := range []int{0, 63, 64, 999} {
		l := chain(1000)
		l[at].Line = -1
		if e := place.Check(l); e != api.ErrPlace {
			t.Errorf("1000 places, of which the one at %d may not be: %d", at, e)
		}
	}
}

func TestP3_3Common(t *testing.T) {
	for _, c := range []struct {
		a, b string
		want int
	}{
		{"m:1 f:2 g:3", "m:1 f:2 h:3", 2}, {"m:1", "f:1", 0}, {"m:1", "m:2", 0}, {"", "", 0}, {"", "m:1", 0}, {"m:1", "m:1", 1},
		{"m:1 f:2", "m:1 f:2 g:3", 2}, {"m:1 f:2 g:3", "m:1 x:2 g:3", 1}, {"m:1 f:2", "m:1 f:3", 1}, {"x:1 f:2", "m:1 f:2", 0},
	} {
		for _, l := range [][2]string{{c.a, c.b}, {c.b, c.a}} {
			if n := place.Common(places(l[0]), places(l[1])); n != c.want {
				t.Errorf("%s and %s: %d", l[0], l[1], n)
			}
		}
	}
}

func TestP3_3CommonOfAnyLists(t *testing.T) {
	long := chain(1000)
	other := append(chain(999), place.Place{Name: "x", Line: 999})
	for i, c := range []struct {
		a, b []place.Place
		want int
	}{
		{long, chain(1000), 1000}, {long, other, 999}, {long, chain(70), 70}, {nil, []place.Place{}, 0},
		{[]place.Place{{}, {Name: "a b:\xff", Line: -1}, {}}, []place.Place{{}, {Name: "a b:\xff", Line: -1}, {Line: 1}}, 2},
	} {
		if n := place.Common(c.a, c.b); n != c.want {
			t.Errorf("%d: %d", i, n)
		}
		if n := place.Common(c.b, c.a); n != c.want {
			t.Errorf("%d, the other way: %d", i, n)
		}
	}
}

func TestP3_4Trim(t *testing.T) {
	libs := "m:1 lib.a:2 f:3 lib.b:4 lib.c:5"
	for _, c := range []struct {
		l        string
		prefixes []string
		want     string
	}{
		{libs, []string{"lib."}, "m:1 lib.a:2 f:3"}, {libs, nil, libs}, {libs, []string{}, libs}, {libs, []string{""}, ""}, {libs, []string{"x", ""}, ""},
		{libs, []string{"lib.b"}, libs}, {libs, []string{"lib.c"}, "m:1 lib.a:2 f:3 lib.b:4"}, {libs, []string{"lib.c:5"}, libs}, {libs, []string{"lib.cc"}, libs},
		{libs, []string{"lib.c", "lib.b"}, "m:1 lib.a:2 f:3"}, {libs, []string{"lib.b", "lib.c"}, "m:1 lib.a:2 f:3"}, {libs, []string{"ib."}, libs},
		{libs, []string{"m", "lib", "f"}, ""}, {libs, []string{"lib", "f"}, "m:1"}, {libs, []string{"Lib", "\xff", "lib.c\x00"}, libs}, {"", []string{""}, ""}, {"", nil, ""},
		{"f:1 f:1", []string{"f"}, ""}, {"g:1 f:1 g:1", []string{"g"}, "g:1 f:1"},
	} {
		l, e := place.Trim(places(c.l), c.prefixes)
		if written(l) != c.want || e != api.OK {
			t.Errorf("%s by %q: %s %d", c.l, c.prefixes, written(l), e)
		}
	}
}

func TestP3_4TrimOfNoStack(t *testing.T) {
	for _, prefixes := range [][]string{nil, {""}, {"f"}} {
		for _, c := range noStacks() {
			l, e := place.Trim(c.l, prefixes)
			if len(l) != 0 || e != c.e {
				t.Errorf("%d places: %d, %d places", len(c.l), e, len(l))
			}
		}
		if l, e := place.Trim(chain(64), prefixes); e != api.OK || prefixes == nil && len(l) != 64 {
			t.Errorf("64 places: %d, %d places", e, len(l))
		}
	}
}

type noStack struct {
	l []place.Place
	e api.Errno
}

// noStacks are lists with which something is wrong, and what that is.
func noStacks() []noStack {
	bad := place.Place{Name: "a b", Line: 1}
	all := []noStack{
		{chain(65), api.ErrStack}, {chain(1000), api.ErrStack}, {append(chain(64), bad), api.ErrPlace}, {append([]place.Place{bad}, chain(64)...), api.ErrPlace},
		{append([]place.Place{bad}, chain(3)...), api.ErrPlace}, {append(append(chain(1), bad), chain(1)...), api.ErrPlace},
	}
	for _, p := range illPlaces() {
		all = append(all, noStack{[]place.Place{p}, api.ErrPlace})
	}
	return all
}
