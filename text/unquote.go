package text

import (
	"strings"

	"errata/api"
)

// Unquote is the text that stands in quotes.
func Unquote(s string) (string, api.Errno) {
	t, n, e := Front(s)
	if e != api.OK || n != len(s) {
		return "", api.ErrForm
	}
	return t, api.OK
}

// Front is the text that stands in quotes at the front of bytes, and how many of these that takes.
func Front(s string) (t string, n int, e api.Errno) {
	t, n = readQuotes(s)
	// Much is read that Quote never writes (an escape of what is shown as itself, a bare break), so that it is held against what Quote does write.
	if n == 0 || Quote(t) != s[:n] {
		return "", 0, api.ErrForm
	}
	return t, n, api.OK
}

// readQuotes reads up to the first quote that no escape is of, and tells how many bytes that takes: 0, if there is no such quote.
func readQuotes(s string) (string, int) {
	if !strings.HasPrefix(s, `"`) {
		return "", 0
	}
	var read strings.Builder
	for at := 1; at < len(s); {
		switch s[at] {
		case '"':
			return read.String(), at + 1
		case '\\':
			b, n := readEscape(s[at:])
			if n == 0 {
				return "", 0
			}
			read.WriteByte(b)
			at += n
		default:
			read.WriteByte(s[at])
			at++
		}
	}
	return "", 0
}

// readEscape is the byte that the escape at the front of a text is of, and how many bytes the escape has: 0, if there is none.
func readEscape(s string) (byte, int) {
	if len(s) >= 2 && (s[1] == '\\' || s[1] == '"') {
		return s[1], 2
	}
	if len(s) < hexWidth || s[1] != 'x' {
		return 0, 0
	}
	high := strings.IndexByte(hexDigits, s[2])
	low := strings.IndexByte(hexDigits, s[3])
	if high < 0 || low < 0 {
		return 0, 0
	}
	return byte(high<<4 | low), hexWidth
}
