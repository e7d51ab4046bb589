// Package text is layer 1: texts of any bytes, as they are told; see shared/doc/01-text.md.
package text

import (
	"iter"
	"unicode/utf8"
)

// broken is what stands for a byte at which no rune begins.
const broken rune = -1

// Runes goes through a text: where each rune begins, and it; -1 where none does.
func Runes(s string) iter.Seq2[int, rune] {
	return func(yield func(int, rune) bool) {
		for at, r := range s {
			if r == utf8.RuneError && isBreak(s[at:]) {
				r = broken
			}
			if !yield(at, r) {
				return
			}
		}
	}
}

// isBreak tells whether no rune begins at the front of a text. A range tells U+FFFD both of a broken byte and of a U+FFFD that is written there; only the length, one byte, tells the first from the second.
func isBreak(s string) bool {
	r, length := utf8.DecodeRuneInString(s)
	return r == utf8.RuneError && length == 1
}

// Breaks is where no rune begins.
func Breaks(s string) []int {
	var breaks []int
	for at, r := range Runes(s) {
		if r == broken {
			breaks = append(breaks, at)
		}
	}
	return breaks
}
