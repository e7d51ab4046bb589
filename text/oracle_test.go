package text_test

import (
	"fmt"
	"math/rand"
	"slices"
	"strings"
)

// What the tests hold package text against: the chapter's words, written down as they stand, without package utf8 and without the language's own range over texts.

// thing is what is taken of a text: its bytes, and the rune, -1 of a break.
type thing struct {
	at    int
	bytes string
	r     rune
}

// form is the shortest UTF-8 form of a number of up to 21 bits, whether it is a rune or not.
func form(n int) string {
	low := func(shift int) byte { return byte(0x80 | n>>shift&0x3F) }
	switch {
	case n < 0x80:
		return string([]byte{byte(n)})
	case n < 0x800:
		return string([]byte{byte(0xC0 | n>>6), low(0)})
	case n < 0x10000:
		return string([]byte{byte(0xE0 | n>>12), low(6), low(0)})
	}
	return string([]byte{byte(0xF0 | n>>18), low(12), low(6), low(0)})
}

// number is what bytes would be the form of, if they were one.
func number(s string) int {
	n := int(s[0])
	switch len(s) {
	case 2:
		n &= 0x1F
	case 3:
		n &= 0x0F
	case 4:
		n &= 0x07
	}
	for i := 1; i < len(s); i++ {
		n = n<<6 | int(s[i]&0x3F)
	}
	return n
}

func isRune(n int) bool { return n >= 0 && n <= 0x10FFFF && (n < 0xD800 || n > 0xDFFF) }

func first(s string) (string, rune) {
	for length := 1; length <= 4 && length <= len(s); length++ {
		if n := number(s[:length]); isRune(n) && form(n) == s[:length] {
			return s[:length], rune(n)
		}
	}
	return s[:1], -1
}

func take(s string) []thing {
	var l []thing
	for at := 0; at < len(s); {
		b, r := first(s[at:])
		l = append(l, thing{at, b, r})
		at += len(b)
	}
	return l
}

func (x thing) shown() string {
	switch {
	case x.r < 0x20 || x.r == 0x7F:
		return fmt.Sprintf("\\x%02x", x.bytes[0])
	case x.r == '\\':
		return "\\\\"
	}
	return x.bytes
}

func (x thing) width() int { return len(take(x.shown())) }

func shown(s string) string {
	t := ""
	for _, x := range take(s) {
		t += x.shown()
	}
	return t
}

func quoted(s string) string {
	t := "\""
	for _, x := range take(s) {
		if x.r == '"' {
			t += "\\"
		}
		t += x.shown()
	}
	return t + "\""
}

func width(s string) int {
	n := 0
	for _, x := range take(s) {
		n += x.width()
	}
	return n
}

// cut takes as long as there is room.
func cut(s string, room int) string {
	t := ""
	for _, x := range take(s) {
		if width(t)+x.width() > room {
			break
		}
		t += x.bytes
	}
	return t
}

// words are the words of a text, none of them parted.
func words(s string) []string {
	var l []string
	word := ""
	for i := 0; i < len(s); i++ {
		if s[i] != ' ' && s[i] != '\n' {
			word += s[i : i+1]
			continue
		}
		if word != "" {
			l = append(l, word)
		}
		word = ""
	}
	if word != "" {
		l = append(l, word)
	}
	return l
}

func wrapped(s string, room int) []string {
	var l []string
	line := ""
	for _, word := range words(s) {
		for word != "" {
			part := cut(word, room)
			word = word[len(part):]
			switch {
			case line == "":
				line = part
			case width(line+" "+part) <= room:
				line += " " + part
			default:
				l = append(l, line)
				line = part
			}
		}
	}
	if line != "" {
		l = append(l, line)
	}
	return l
}

// allTexts are all texts of some bytes, up to a length.
func allTexts(alphabet string, length int) []string {
	l := []string{""}
	longest := l
	for range length {
		var longer []string
		for _, s := range longest {
			for i := range len(alphabet) {
				longer = append(longer, s+alphabet[i:i+1])
			}
		}
		l = append(l, longer...)
		longest = longer
	}
	return l
}

// someTexts are the texts over which the promises that hold of every text are tried: the ends of UTF-8's ranges in all orders, and longer texts of pieces.
func someTexts() []string {
	l := allTexts("\x00\x1f \n\"\\ax\x7f\x80\x8f\x90\x9f\xa0\xbf\xc0\xc1\xc2\xc3\xdf\xe0\xed\xef\xf0\xf4\xf5\xff", 3)
	l = append(l, allTexts("a\x80\x8f\x90\x9f\xbf\xe0\xed\xf0\xf4\xf8", 4)...)
	return append(l, longTexts(400)...)
}

// longTexts puts texts together of pieces, the same ones each time.
func longTexts(n int) []string {
	pieces := []string{"a", "bc", "é", "\u20ac", "\U0001F600", "\ufffd", "\u0085", "\xff", "\xed\xa0\x80", "\xe2\x82", "\xc0\x80", "\x00", "\x1f", "\x7f", "\t", "\\", "\\x41", "\"", "'", " ", " ", " ", "  ", "\n", "\r", "word", "longer-word"}
	dice := rand.New(rand.NewSource(1))
	var l []string
	for range n {
		var b strings.Builder
		for range dice.Intn(30) {
			b.WriteString(pieces[dice.Intn(len(pieces))])
		}
		l = append(l, b.String())
	}
	return slices.Compact(l)
}
