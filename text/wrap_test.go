package text_test

import (
	"math"
	"slices"
	"strings"
	"testing"

	"errata/api"
	"errata/text"
)

func TestP1_3Cut(t *testing.T) {
	for _, x := range []struct {
		s, cut string
		width  int
	}{
		{"ab\xff", "ab", 5}, {"ab\xff", "ab\xff", 6}, {"ab\xff", "", 0}, {"ab\xff", "", -1}, {"ab\xff", "", math.MinInt}, {"ab\xff", "ab\xff", math.MaxInt},
		{"é", "é", 1}, {"é", "", 0}, {"éa", "é", 1},
		{"\\a", "", 1}, {"\\a", "\\", 2}, {"\"a", "\"", 1},
		{"\na", "", 3}, {"\na", "\n", 4}, {"\x7fa", "", 3}, {"\x7fa", "\x7f", 4},
		{"\xffa", "", 3}, {"\xe2\x82", "\xe2", 7}, {"\xe2\x82", "\xe2\x82", 8},
		{"", "", 0}, {"", "", 9},
	} {
		if c := text.Cut(x.s, x.width); c != x.cut {
			t.Errorf("Cut(%q, %d): %q", x.s, x.width, c)
		}
	}
}

func TestP1_3SomeTexts(t *testing.T) {
	for _, s := range append(longTexts(150), allTexts("a\\\x00\xc3\xa9", 3)...) {
		for w := -1; w <= width(s)+1; w++ {
			if c := text.Cut(s, w); c != cut(s, w) {
				t.Fatalf("Cut(%q, %d): %q, not %q", s, w, c, cut(s, w))
			}
		}
	}
}

func TestP1_4Wrap(t *testing.T) {
	for _, x := range []struct {
		s     string
		width int
		lines []string
	}{
		{"to be  or not", 5, []string{"to be", "or", "not"}},
		{"abcdefgh ij", 4, []string{"abcd", "efgh", "ij"}},
		{"abcdef g", 4, []string{"abcd", "ef g"}},
		{"g abcdef", 4, []string{"g", "abcd", "ef"}},
		{"g abcdef", 6, []string{"g", "abcdef"}},
		{"g abcdef", 8, []string{"g abcdef"}},
		{"", 4, nil}, {" ", 4, nil}, {"\n \n", 4, nil},
		{"a\nb", 9, []string{"a b"}}, {" a\n\n  b ", 4, []string{"a b"}},
		{"a\tb\rc", 4, []string{"a", "\t", "b", "\r", "c"}},
		{"a\u00a0b", 4, []string{"a\u00a0b"}},
		{"\xff\xff\xff", 4, []string{"\xff", "\xff", "\xff"}}, {"\xff\xff", 7, []string{"\xff", "\xff"}}, {"\xff\xff", 8, []string{"\xff\xff"}},
		{"\\\\ \\", 4, []string{"\\\\", "\\"}}, {"\\ a", 4, []string{"\\ a"}},
		{"éé éé", 5, []string{"éé éé"}},
		{"a b c", math.MaxInt, []string{"a b c"}},
	} {
		if l, e := text.Wrap(x.s, x.width); !slices.Equal(l, x.lines) || e != api.OK {
			t.Errorf("Wrap(%q, %d): %q, %d", x.s, x.width, l, e)
		}
	}
}

func TestP1_4WidthTooSmall(t *testing.T) {
	for _, w := range []int{3, 2, 1, 0, -1, -4, math.MinInt} {
		for _, s := range []string{"", "a", "a b"} {
			if l, e := text.Wrap(s, w); len(l) != 0 || e != api.ErrArg {
				t.Errorf("Wrap(%q, %d): %q, %d", s, w, l, e)
			}
		}
	}
}

func wrapTexts() []string {
	return append(longTexts(400), allTexts("a \n\\\xff", 5)...)
}

func TestP1_4SomeTexts(t *testing.T) {
	for _, s := range wrapTexts() {
		for _, w := range []int{4, 5, 6, 7, 11, 30} {
			if l, e := text.Wrap(s, w); !slices.Equal(l, wrapped(s, w)) || e != api.OK {
				t.Fatalf("Wrap(%q, %d): %q, %d, not %q", s, w, l, e, wrapped(s, w))
			}
		}
	}
}

// TestWrapOfOneLongWord ends soon only if the parts of a word are not measured again and again.
func TestWrapOfOneLongWord(t *testing.T) {
	s := strings.Repeat("é\xff\\", 1<<18)
	l, e := text.Wrap(s, 4)
	if e != api.OK || strings.Join(l, "") != s {
		t.Error(len(l), e)
	}
	l, e = text.Wrap(strings.Repeat("ab ", 1<<18), 4)
	if e != api.OK || len(l) != 1<<18 {
		t.Error(len(l), e)
	}
}

func TestWrapIsNewMemory(t *testing.T) {
	l, _ := text.Wrap("ab cd ef", 4)
	l = l[:cap(l)]
	for i := range l {
		l[i] = "x"
	}
	if m, _ := text.Wrap("ab cd ef", 4); !slices.Equal(m, []string{"ab", "cd", "ef"}) {
		t.Error(m)
	}
}

func TestP1_8Lines(t *testing.T) {
	for _, s := range wrapTexts() {
		for _, w := range []int{4, 5, 8, 12, 200} {
			checkLines(t, s, w)
		}
	}
}

func checkLines(t *testing.T, s string, w int) {
	t.Helper()
	lines, e := text.Wrap(s, w)
	if e != api.OK {
		t.Fatalf("Wrap(%q, %d): %d", s, w, e)
	}
	for i, line := range lines {
		if line == "" || text.Width(line) > w {
			t.Fatalf("Wrap(%q, %d): line %q", s, w, line)
		}
		if i > 0 && text.Width(lines[i-1]+" "+words(line)[0]) <= w {
			t.Fatalf("Wrap(%q, %d): there is room behind %q for %q", s, w, lines[i-1], line)
		}
	}
	together := strings.Join(lines, " ")
	if again, e := text.Wrap(together, w); !slices.Equal(again, lines) || e != api.OK {
		t.Fatalf("Wrap(%q, %d): %q, %d, not %q", together, w, again, e, lines)
	}
	wide := slices.ContainsFunc(words(s), func(x string) bool { return width(x) > w })
	if !wide && !slices.Equal(words(together), words(s)) {
		t.Fatalf("Wrap(%q, %d): words %q", s, w, words(together))
	}
	if strings.Join(words(together), "") != strings.Join(words(s), "") {
		t.Fatalf("Wrap(%q, %d): something is lost: %q", s, w, lines)
	}
}
