package text_test

import (
	"strings"
	"testing"
	"unicode/utf8"

	"errata/api"
	"errata/text"
)

func checkShown(t *testing.T, s string) {
	t.Helper()
	if x := text.Show(s); x != shown(s) {
		t.Errorf("Show(%q): %q, not %q", s, x, shown(s))
	}
	if w := text.Width(s); w != width(s) {
		t.Errorf("Width(%q): %d, not %d", s, w, width(s))
	}
	if q := text.Quote(s); q != quoted(s) {
		t.Errorf("Quote(%q): %q, not %q", s, q, quoted(s))
	}
}

func TestP1_2Shown(t *testing.T) {
	for _, x := range []struct {
		s, show, quote string
		width          int
	}{
		{"", ``, `""`, 0},
		{"a\n\xff\\\"", `a\x0a\xff\\"`, `"a\x0a\xff\\\""`, 12},
		{"\x00\x1f \x7e\x7f", `\x00\x1f ~\x7f`, `"\x00\x1f ~\x7f"`, 14},
		{"\u0080\u009f\u2028\ufffd", "\u0080\u009f\u2028\ufffd", "\"\u0080\u009f\u2028\ufffd\"", 4},
		{"\xed\xa0\x80", `\xed\xa0\x80`, `"\xed\xa0\x80"`, 12},
		{"é\U0010FFFF'", "é\U0010FFFF'", "\"é\U0010FFFF'\"", 3},
		{`\x41`, `\\x41`, `"\\x41"`, 5},
		{`"\"`, `"\\"`, `"\"\\\""`, 4},
		{"\r\t\v", `\x0d\x09\x0b`, `"\x0d\x09\x0b"`, 12},
	} {
		if s, w, q := text.Show(x.s), text.Width(x.s), text.Quote(x.s); s != x.show || w != x.width || q != x.quote {
			t.Errorf("%q: %s, %d, %s", x.s, s, w, q)
		}
	}
	if n := len(text.Quote("a\n\xff\\\"")); n != 15 {
		t.Error("bytes of the quotes:", n)
	}
}

func TestP1_2SomeTexts(t *testing.T) {
	for _, s := range someTexts() {
		checkShown(t, s)
	}
	for n := range 0x3000 {
		checkShown(t, form(n))
	}
}

func TestP1_2Unquote(t *testing.T) {
	for _, x := range []struct{ quotes, s string }{
		{`""`, ""},
		{`"\xff"`, "\xff"},
		{`"a\"b"`, "a\"b"},
		{`"\\"`, "\\"},
		{`"\\x41"`, `\x41`},
		{`"\xc3a\xa9"`, "\xc3a\xa9"},
		{`"é'"`, "é'"},
		{"\"\ufffd\"", "\ufffd"},
		{`"\xed\xa0\x80"`, "\xed\xa0\x80"},
	} {
		if s, e := text.Unquote(x.quotes); s != x.s || e != api.OK {
			t.Errorf("Unquote(%s): %q, %d", x.quotes, s, e)
		}
	}
}

// noQuotes are texts with which no quotes begin.
func noQuotes() []string {
	return []string{
		``, `"`, `"a`, `a`, `a"`, ` "a"`, `'a'`, `a"b"`, "\xff", "\x00",
		`"\x41"`, `"\x22"`, `"\x5c"`, `"\x20"`, `"\x7e"`,
		`"\xFF"`, `"\xfF"`, `"\XFF"`, `"\x0A"`,
		`"\xc3\xa9"`, `"a\xe2\x82\xac"`, `"\xef\xbf\xbd"`, `"\xf0\x9f\x98\x80"`,
		`"\x"`, `"\x0"`, `"\xf`, `"\x0`, `"\x`, `"\`, `"\"`, `"\\`, `"\\\"`, `"\xg0"`, `"\x0g"`, `"\x 0"`, `"\x/0"`, `"\x:0"`,
		`"\q"`, `"\n"`, `"\a"`, `"\0"`, `"\'"`, `"\ "`, `"\u00e9"`,
		"\"\n\"", "\"\x00\"", "\"\x1f\"", "\"\x7f\"", "\"\xff\"", "\"\xc3\"", "\"\xed\xa0\x80\"", "\"\xc0\x80\"",
		"\"\\\xff\"", "\"\\xc3\xa9\"", "\"\xc3\\xa9\"", "\"\\\n\"",
	}
}

func TestP1_2NoQuotes(t *testing.T) {
	for _, x := range noQuotes() {
		if s, e := text.Unquote(x); s != "" || e != api.ErrForm {
			t.Errorf("Unquote(%s): %q, %d", x, s, e)
		}
		if s, n, e := text.Front(x); s != "" || n != 0 || e != api.ErrForm {
			t.Errorf("Front(%s): %q, %d, %d", x, s, n, e)
		}
	}
	for _, x := range []string{`"a"b`, `"a""`, `"" `, `"""`, `"a" "b"`, "\"a\"\n"} {
		if s, e := text.Unquote(x); s != "" || e != api.ErrForm {
			t.Errorf("Unquote(%s): %q, %d", x, s, e)
		}
	}
}

func TestP1_2Front(t *testing.T) {
	for _, x := range []struct {
		in, s string
		n     int
	}{
		{`""`, "", 2},
		{`"""`, "", 2},
		{`"a\xff" rest"`, "a\xff", 7},
		{`"a\""b"`, "a\"", 5},
		{`"\\"\xff`, "\\", 4},
		{"\"é\"\xff\x00", "é", 4},
		{`"a""b"`, "a", 3},
	} {
		if s, n, e := text.Front(x.in); s != x.s || n != x.n || e != api.OK {
			t.Errorf("Front(%s): %q, %d, %d", x.in, s, n, e)
		}
	}
}

// TestP1_2AllShortQuotes asks of every short text of a few bytes: it is quotes just if it is those of one of all the texts whose quotes could be so short.
func TestP1_2AllShortQuotes(t *testing.T) {
	texts := map[string]string{}
	for _, s := range allTexts("\\\"x0afA\x00\x0a\x0f\xa0\xaa\xaf\xf0\xfa\xff\xc3\xa9", 4) {
		texts[quoted(s)] = s
	}
	for _, inner := range allTexts("\\\"x0afA\xff\n\xc3\xa9", 4) {
		x := "\"" + inner + "\""
		want, is := texts[x]
		s, e := text.Unquote(x)
		if s != want || is != (e == api.OK) || !is && e != api.ErrForm {
			t.Fatalf("Unquote(%q): %q, %d", x, s, e)
		}
	}
}

func TestP1_6ThereAndBack(t *testing.T) {
	behind := []string{"", "\"", "a", "\\", " \"b\"", "\xff", "\n"}
	for i, s := range someTexts() {
		q := text.Quote(s)
		if u, e := text.Unquote(q); u != s || e != api.OK {
			t.Fatalf("%q: Unquote(%s): %q, %d", s, q, u, e)
		}
		in := q + behind[i%len(behind)]
		if u, n, e := text.Front(in); u != s || n != len(q) || e != api.OK {
			t.Fatalf("Front(%s): %q, %d, %d", in, u, n, e)
		}
	}
}

func TestP1_6QuotesOfWhatIsUnquoted(t *testing.T) {
	read := 0
	for _, x := range append(allTexts("\\\"xcaf390e\xff", 5), noQuotes()...) {
		s, n, e := text.Front(x)
		if e != api.OK {
			continue
		}
		read++
		if text.Quote(s) != x[:n] {
			t.Fatalf("Front(%q): %q, %d", x, s, n)
		}
	}
	if read == 0 {
		t.Error("none was read")
	}
}

func TestP1_6ShownUnlike(t *testing.T) {
	of := map[string]string{}
	for _, s := range someTexts() {
		x := text.Show(s)
		if other, ok := of[x]; ok && other != s {
			t.Fatalf("%q and %q are both shown %q", s, other, x)
		}
		of[x] = s
		if !utf8.ValidString(x) || strings.ContainsFunc(x, func(r rune) bool { return r < 0x20 || r == 0x7F }) {
			t.Fatalf("Show(%q): %q", s, x)
		}
		if len(text.Breaks(x)) != 0 || utf8.RuneCountInString(x) != text.Width(s) {
			t.Fatalf("Show(%q): %q, of width %d", s, x, text.Width(s))
		}
	}
}
