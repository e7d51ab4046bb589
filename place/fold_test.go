package place_test

import (
	"math"
	"math/rand"
	"strings"
	"testing"

	"errata/api"
	"errata/place"
)

func TestP3_5Fold(t *testing.T) {
	for l, want := range map[string]string{
		"":                            "",
		"m:1":                         "m:1 x1",
		"m:1 f:2 f:2 f:2 g:3":         "m:1 x1; f:2 x3; g:3 x1",
		"a:1 b:1 a:1 b:1 c:1":         "a:1 b:1 x2; c:1 x1",
		"a:1 a:1 a:1 a:1":             "a:1 x4",
		"a:1 b:1 c:1":                 "a:1 b:1 c:1 x1",
		"a:1 a:2 a:1 a:2":             "a:1 a:2 x2",
		"a:1 a:2 b:1 b:2":             "a:1 a:2 b:1 b:2 x1",
		"x:1 y:1 a:1 a:1 z:1 x:1 b:1": "x:1 y:1 x1; a:1 x2; z:1 x:1 b:1 x1",
		"a:1 a:1 b:1 b:1":             "a:1 x2; b:1 x2",
	} {
		runs, e := place.Fold(places(l))
		if writtenRuns(runs) != want || e != api.OK {
			t.Errorf("%s: %s %d", l, writtenRuns(runs), e)
		}
	}
}

func TestP3_5FoldWhichPeriod(t *testing.T) {
	for l, want := range map[string]string{
		"abababab":                          "ab x4", // two and four places tell as much
		"aaaaaa":                            "a x6",  // one, two and three do
		"aabaab":                            "aab x2",
		"aaaabaaaab":                        "aaaab x2", // ten places, though the first four are one
		"aabaabaaa":                         "aab x2; a x3",
		"aabbaabb":                          "aabb x2",
		"aaab":                              "a x3; b x1",
		"abcdefghabcdefgh":                  "abcdefgh x2",
		"abcdefghiabcdefghi":                "abcdefghiabcdefghi x1", // nine places are too many
		"abcdefghiabcdefghij":               "abcdefghiabcdefghij x1",
		"xabcdefghabcdefgh":                 "x x1; abcdefgh x2",
		"abcdefgabcdefgabcdefg":             "abcdefg x3",
		"abababc":                           "ab x3; c x1",
		"abcababcab":                        "abcab x2",
		"aabab":                             "a x2; bab x1",
		"abcabcabca":                        "abc x3; a x1",
		strings.Repeat("a", 64):             "a x64",
		strings.Repeat("ab", 32):            "ab x32",
		strings.Repeat("abcdefgh", 8):       "abcdefgh x8",
		strings.Repeat("abcdefghi", 7):      strings.Repeat("abcdefghi", 7) + " x1",
		strings.Repeat("a", 63) + "b":       "a x63; b x1",
		"b" + strings.Repeat("a", 63):       "b x1; a x63",
		"abcdefgh" + "abcdefgh" + "abcdefg": "abcdefgh x2; abcdefg x1",
	} {
		runs, e := place.Fold(letters(l))
		if foldedLetters(runs) != want || e != api.OK {
			t.Errorf("%s: %s %d", l, foldedLetters(runs), e)
		}
	}
}

// Fold is held against the chapter's word, and Unfold against Fold.
func sayFolded(t *testing.T, s string) {
	t.Helper()
	runs, e := place.Fold(letters(s))
	if foldedLetters(runs) != folded(s) || e != api.OK {
		t.Fatalf("%s: %s %d, and not %s", s, foldedLetters(runs), e, folded(s))
	}
	n := 0
	for _, r := range runs {
		n += len(r.Places)
	}
	back, e := place.Unfold(runs)
	if written(back) != written(letters(s)) || e != api.OK || n > len(s) {
		t.Fatalf("%s: %s %d, %d places together", s, written(back), e, n)
	}
}

func TestP3_5P3_8FoldOfAllShortStacks(t *testing.T) {
	var all func(s, alphabet string, most int)
	all = func(s, alphabet string, most int) {
		sayFolded(t, s)
		for i := 0; i < len(alphabet) && len(s) < most; i++ {
			all(s+alphabet[i:i+1], alphabet, most)
		}
	}
	all("", "ab", 13)
	all("", "abc", 8)
}

func TestP3_5P3_8FoldOfStacksWithBlocks(t *testing.T) {
	r := rand.New(rand.NewSource(35))
	for range 5000 {
		s := ""
		for len(s) < 64 && r.Intn(8) > 0 {
			block := ""
			for range 1 + r.Intn(10) {
				block += string(rune('a' + r.Intn(1+r.Intn(20))))
			}
			s += strings.Repeat(block, 1+r.Intn(4))
		}
		sayFolded(t, s[:min(64, len(s))])
	}
}

func TestP3_8UnfoldOfFold(t *testing.T) {
	for _, l := range someStacks() {
		runs, e := place.Fold(l)
		back, f := place.Unfold(runs)
		if e != api.OK || f != api.OK || written(back) != written(l) {
			t.Errorf("%s: %s %d, %s %d", written(l), writtenRuns(runs), e, written(back), f)
		}
		n := 0
		for _, r := range runs {
			n += len(r.Places)
			if len(r.Places) == 0 || r.Times < 1 {
				t.Errorf("%s: an empty run", written(l))
			}
		}
		if n > len(l) {
			t.Errorf("%s: runs with %d places", written(l), n)
		}
	}
}

func TestP3_5FoldOfNoStack(t *testing.T) {
	for _, c := range noStacks() {
		if runs, e := place.Fold(c.l); len(runs) != 0 || e != c.e {
			t.Errorf("%d places: %s %d, and not %d", len(c.l), writtenRuns(runs), e, c.e)
		}
	}
}

func TestP3_5Unfold(t *testing.T) {
	a, b := letters("a"), letters("ab")
	for i, c := range []struct {
		runs []place.Run
		want string
	}{
		{nil, ""}, {[]place.Run{}, ""}, {[]place.Run{{Places: a, Times: 1}}, "a:1"}, {[]place.Run{{Places: b, Times: 2}, {Places: a, Times: 1}}, "a:1 b:1 a:1 b:1 a:1"},
		{[]place.Run{{Places: a, Times: 1}, {Places: a, Times: 2}, {Places: a, Times: 1}}, "a:1 a:1 a:1 a:1"}, // such runs Fold would not make
		{[]place.Run{{Places: chain(64), Times: 1}}, written(chain(64))}, {[]place.Run{{Places: a, Times: 64}}, strings.TrimSpace(strings.Repeat("a:1 ", 64))},
		{[]place.Run{{Places: chain(63), Times: 1}, {Places: a, Times: 1}}, written(chain(63)) + " a:1"},
		{[]place.Run{{Places: b, Times: 32}}, strings.TrimSpace(strings.Repeat("a:1 b:1 ", 32))},
	} {
		l, e := place.Unfold(c.runs)
		if written(l) != c.want || e != api.OK {
			t.Errorf("%d: %s %d", i, written(l), e)
		}
	}
}

func TestP3_5UnfoldOfNoRuns(t *testing.T) {
	a, bad := letters("a"), []place.Place{{Name: "a b", Line: 1}}
	huge := strings.Repeat("n", 1<<20)
	for i, c := range []struct {
		runs []place.Run
		e    api.Errno
	}{
		{[]place.Run{{}}, api.ErrArg}, {[]place.Run{{Places: a}}, api.ErrArg}, {[]place.Run{{Places: a, Times: -1}}, api.ErrArg}, {[]place.Run{{Places: a, Times: math.MinInt}}, api.ErrArg},
		{[]place.Run{{Times: 1}}, api.ErrArg}, {[]place.Run{{Places: []place.Place{}, Times: 1}}, api.ErrArg}, {[]place.Run{{Times: math.MaxInt}}, api.ErrArg},
		{[]place.Run{{Places: a, Times: 1}, {Places: a}}, api.ErrArg},
		{[]place.Run{{Places: a, Times: 65}, {Places: a}}, api.ErrArg}, {[]place.Run{{Places: chain(65), Times: 1}, {Times: 1}}, api.ErrArg}, {[]place.Run{{Places: bad, Times: 1}, {Places: a}}, api.ErrArg},
		{[]place.Run{{Places: bad}}, api.ErrArg},
		{[]place.Run{{Places: a, Times: 65}}, api.ErrStack}, {[]place.Run{{Places: chain(65), Times: 1}}, api.ErrStack}, {[]place.Run{{Places: chain(33), Times: 2}}, api.ErrStack},
		{[]place.Run{{Places: chain(64), Times: 1}, {Places: a, Times: 1}}, api.ErrStack}, {[]place.Run{{Places: a, Times: 1}, {Places: chain(8), Times: 8}}, api.ErrStack},
		{[]place.Run{{Places: a, Times: math.MaxInt}}, api.ErrStack}, {[]place.Run{{Places: chain(2), Times: 1 << 62}}, api.ErrStack}, {[]place.Run{{Places: chain(4), Times: 1 << 62}}, api.ErrStack},
		{[]place.Run{{Places: a, Times: math.MaxInt}, {Places: a, Times: math.MaxInt}, {Places: chain(2), Times: 1}}, api.ErrStack}, {[]place.Run{{Places: chain(4), Times: 1<<62 + 1}, {Places: a, Times: 1}}, api.ErrStack},
		{[]place.Run{{Places: bad, Times: 65}}, api.ErrStack}, {[]place.Run{{Places: bad, Times: 1}, {Places: a, Times: 64}}, api.ErrStack},
		{[]place.Run{{Places: bad, Times: 64}}, api.ErrPlace}, {[]place.Run{{Places: a, Times: 63}, {Places: bad, Times: 1}}, api.ErrPlace}, {[]place.Run{{Places: bad, Times: 1}, {Places: a, Times: 1}}, api.ErrPlace},
		{[]place.Run{{Places: []place.Place{{Name: huge, Line: 1}}, Times: 64}}, api.ErrPlace}, {[]place.Run{{Places: []place.Place{{}}, Times: 1}}, api.ErrPlace},
	} {
		l, e := place.Unfold(c.runs)
		if len(l) != 0 || e != c.e {
			t.Errorf("%d: %d, %d places", i, e, len(l))
		}
	}
	many := make([]place.Run, 100000)
	for i := range many {
		many[i] = place.Run{Places: a, Times: 1}
	}
	if l, e := place.Unfold(many); len(l) != 0 || e != api.ErrStack {
		t.Errorf("many runs: %d, %d places", e, len(l))
	}
	many[len(many)-1].Times = 0
	if l, e := place.Unfold(many); len(l) != 0 || e != api.ErrArg {
		t.Errorf("many runs, the last one none: %d, %d places", e, len(l))
	}
	for _, p := range illPlaces() {
		if l, e := place.Unfold([]place.Run{{Places: append(chain(1), p), Times: 2}}); len(l) != 0 || e != api.ErrPlace {
			t.Errorf("%#v: %d, %d places", p, e, len(l))
		}
	}
}
