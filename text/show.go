package text

import "unicode/utf8"

const (
	hexDigits = "0123456789abcdef"
	hexWidth  = 4 // of \xNN
)

// Show is a text as it is shown.
func Show(s string) string {
	shown := make([]byte, 0, len(s))
	for at, r := range Runes(s) {
		shown = appendShown(shown, s[at], r)
	}
	return string(shown)
}

// Width is how many runes a text takes where it is shown.
func Width(s string) int {
	width := 0
	for _, r := range Runes(s) {
		width += shownWidth(r)
	}
	return width
}

// Quote is a text in quotes.
func Quote(s string) string {
	quoted := make([]byte, 0, len(s)+2)
	quoted = append(quoted, '"')
	for at, r := range Runes(s) {
		if r == '"' {
			quoted = append(quoted, '\\')
		}
		quoted = appendShown(quoted, s[at], r)
	}
	return string(append(quoted, '"'))
}

// appendShown puts what is shown of a rune, which begins with the byte first, or of a break, which is that byte.
func appendShown(to []byte, first byte, r rune) []byte {
	switch {
	case isHex(r):
		return append(to, '\\', 'x', hexDigits[first>>4], hexDigits[first&15])
	case r == '\\':
		return append(to, '\\', '\\')
	}
	return utf8.AppendRune(to, r)
}

func shownWidth(r rune) int {
	switch {
	case isHex(r):
		return hexWidth
	case r == '\\':
		return 2
	}
	return 1
}

// isHex tells whether a rune, or a break, is shown by its byte's digits.
func isHex(r rune) bool { return r == broken || r < 0x20 || r == 0x7F }
