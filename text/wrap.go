package text

import (
	"strings"

	"errata/api"
)

// leastWidth is the width of a line into which every rune and every break goes.
const leastWidth = hexWidth

// Cut is as much of a text as is shown in a width.
func Cut(s string, width int) string { return strings.Clone(s[:fitting(s, width)]) }

// fitting is how many bytes the first things have that are shown in a width.
func fitting(s string, width int) int {
	taken := 0
	for at, r := range Runes(s) {
		taken += shownWidth(r)
		if taken > width {
			return at
		}
	}
	return len(s)
}

// Wrap is a text's lines, none wider than a width.
func Wrap(s string, width int) ([]string, api.Errno) {
	if width < leastWidth {
		return nil, api.ErrArg
	}
	words := narrowWords(s, width)
	var lines []string
	for len(words) > 0 {
		n := lineLength(words, width)
		// Join of one word is the word itself, a piece of s: hence the copy.
		lines = append(lines, strings.Clone(strings.Join(words[:n], " ")))
		words = words[n:]
	}
	return lines, api.OK
}

// narrowWords are a text's words, those that are wider than a width in parts.
func narrowWords(s string, width int) []string {
	var words []string
	for _, word := range strings.FieldsFunc(s, isSpace) {
		for word != "" {
			n := fitting(word, width)
			words = append(words, word[:n])
			word = word[n:]
		}
	}
	return words
}

func isSpace(r rune) bool { return r == ' ' || r == '\n' }

// lineLength is how many of the first words stand in one line.
func lineLength(words []string, width int) int {
	taken := Width(words[0])
	for n, word := range words[1:] {
		taken += 1 + Width(word)
		if taken > width {
			return n + 1
		}
	}
	return len(words)
}
