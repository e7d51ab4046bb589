package text_test

import (
	"slices"
	"strings"
	"testing"

	"errata/text"
)

func told(s string) (at []int, runes []rune) {
	for i, r := range text.Runes(s) {
		at = append(at, i)
		runes = append(runes, r)
	}
	return at, runes
}

func checkRunes(t *testing.T, s string) {
	t.Helper()
	var at, breaks []int
	var runes []rune
	for _, x := range take(s) {
		at = append(at, x.at)
		runes = append(runes, x.r)
		if x.r == -1 {
			breaks = append(breaks, x.at)
		}
	}
	if a, r := told(s); !slices.Equal(a, at) || !slices.Equal(r, runes) {
		t.Errorf("Runes(%q): %v %x, not %v %x", s, a, r, at, runes)
	}
	if b := text.Breaks(s); !slices.Equal(b, breaks) {
		t.Errorf("Breaks(%q): %v, not %v", s, b, breaks)
	}
}

func TestP1_1Examples(t *testing.T) {
	for _, x := range []struct {
		s      string
		at     []int
		runes  []rune
		breaks []int
	}{
		{"", nil, nil, nil},
		{"a\xc3\xa9\xff\x80", []int{0, 1, 3, 4}, []rune{0x61, 0xE9, -1, -1}, []int{3, 4}},
		{"\xed\xa0\x80", []int{0, 1, 2}, []rune{-1, -1, -1}, []int{0, 1, 2}},
		{"\xed\xbf\xbf", []int{0, 1, 2}, []rune{-1, -1, -1}, []int{0, 1, 2}},
		{"\xed\x9f\xbf\xee\x80\x80", []int{0, 3}, []rune{0xD7FF, 0xE000}, nil},
		{"\xc0\x80", []int{0, 1}, []rune{-1, -1}, []int{0, 1}},
		{"\xe0\x9f\xbf", []int{0, 1, 2}, []rune{-1, -1, -1}, []int{0, 1, 2}},
		{"\xf4\x8f\xbf\xbf", []int{0}, []rune{0x10FFFF}, nil},
		{"\xf4\x90\x80\x80", []int{0, 1, 2, 3}, []rune{-1, -1, -1, -1}, []int{0, 1, 2, 3}},
		{"\xef\xbf\xbd", []int{0}, []rune{0xFFFD}, nil},
		{"\xef\xbf\xbd\xef\xbf", []int{0, 3, 4}, []rune{0xFFFD, -1, -1}, []int{3, 4}},
		{"\xe2\x82a\xe2\x82\xac", []int{0, 1, 2, 3}, []rune{-1, -1, 'a', 0x20AC}, []int{0, 1}},
	} {
		at, runes := told(x.s)
		if !slices.Equal(at, x.at) || !slices.Equal(runes, x.runes) {
			t.Errorf("Runes(%q): %v %x", x.s, at, runes)
		}
		if b := text.Breaks(x.s); !slices.Equal(b, x.breaks) {
			t.Errorf("Breaks(%q): %v", x.s, b)
		}
		checkRunes(t, x.s)
	}
}

func TestP1_1EveryNumber(t *testing.T) {
	for n := range 0x110000 + 0x100 {
		s := form(n)
		at, runes := told(s)
		if isRune(n) {
			if len(at) != 1 || at[0] != 0 || runes[0] != rune(n) {
				t.Fatalf("%x: %v %x", n, at, runes)
			}
		} else if len(text.Breaks(s)) != len(s) {
			t.Fatalf("%x is no rune: %v %x", n, at, runes)
		}
	}
}

func TestP1_1LongForms(t *testing.T) {
	for n := range 0x80 {
		for _, s := range []string{
			string([]byte{0xC0 | byte(n>>6), 0x80 | byte(n&0x3F)}),
			string([]byte{0xE0, 0x80 | byte(n>>6), 0x80 | byte(n&0x3F)}),
			string([]byte{0xF0, 0x80, 0x80 | byte(n>>6), 0x80 | byte(n&0x3F)}),
		} {
			if len(text.Breaks(s)) != len(s) {
				t.Errorf("%q: %v", s, text.Breaks(s))
			}
		}
	}
}

func TestP1_1SomeTexts(t *testing.T) {
	for _, s := range someTexts() {
		checkRunes(t, s)
	}
}

func TestRunesIsLeftAndGoneOverAgain(t *testing.T) {
	s := "aé\xffb"
	runes := text.Runes(s)
	for stop := range 4 {
		n := 0
		for range runes {
			if n == stop {
				break
			}
			n++
		}
		if n != stop {
			t.Errorf("left at %d: %d", stop, n)
		}
	}
	pairs := 0
	for i := range runes {
		for j := range runes {
			if i >= 0 && j >= 0 {
				pairs++
			}
		}
	}
	if pairs != 16 {
		t.Error("rounds within rounds:", pairs)
	}
}

func TestBreaksIsNewMemory(t *testing.T) {
	s := "\xff\xfea\xff"
	b := text.Breaks(s)
	b = b[:cap(b)]
	for i := range b {
		b[i] = 77
	}
	if c := text.Breaks(s); !slices.Equal(c, []int{0, 1, 3}) {
		t.Error(c)
	}
}

func TestP1_7Parts(t *testing.T) {
	for _, s := range someTexts() {
		at, runes := told(s)
		at = append(at, len(s))
		together, sum := "", 0
		for i, r := range runes {
			part := s[at[i]:at[i+1]]
			if r == -1 && len(part) != 1 {
				t.Fatalf("%q: a break of %d bytes", s, len(part))
			}
			if r != -1 && part != string(r) {
				t.Fatalf("%q: %x is told of %q", s, r, part)
			}
			together += part
			sum += text.Width(part)
		}
		if together != s {
			t.Fatalf("%q: the parts are %q", s, together)
		}
		if w := text.Width(s); w != sum {
			t.Fatalf("Width(%q): %d, the parts' %d", s, w, sum)
		}
		checkCuts(t, s)
	}
}

func checkCuts(t *testing.T, s string) {
	t.Helper()
	narrower := ""
	full := text.Width(s)
	for w := -1; w <= full+1; w++ {
		c := text.Cut(s, w)
		if !strings.HasPrefix(s, c) || !strings.HasPrefix(c, narrower) {
			t.Fatalf("Cut(%q, %d): %q, behind %q", s, w, c, narrower)
		}
		if w >= full && c != s {
			t.Fatalf("Cut(%q, %d), its width: %q", s, w, c)
		}
		narrower = c
	}
}
