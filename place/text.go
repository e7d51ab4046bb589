package place

import (
	"slices"
	"strconv"
	"strings"

	"errata/api"
)

const between = " < "

// Text is a stack as a text, the innermost place first.
func Text(l []Place) (string, api.Errno) {
	if e := Check(l); e != api.OK {
		return "", e
	}
	var b strings.Builder
	for i, p := range slices.Backward(l) {
		b.WriteString(p.Name)
		b.WriteByte(':')
		b.WriteString(strconv.Itoa(p.Line))
		if i > 0 {
			b.WriteString(between)
		}
	}
	return b.String(), api.OK
}

// Parse is the stack whose text it is.
func Parse(s string) ([]Place, api.Errno) {
	var l []Place
	for more := s != ""; more; {
		var one string
		one, s, more = strings.Cut(s, between)
		p, ok := parsePlace(one)
		if !ok || len(l) == MaxPlaces {
			return nil, api.ErrForm
		}
		l = append(l, p)
	}
	slices.Reverse(l)
	return l, api.OK
}

// parsePlace reads the line by the library's rules, which allow more than a stack's text does (signs, noughts ahead); so it must come out again as it stood.
func parsePlace(s string) (Place, bool) {
	name, digits, _ := strings.Cut(s, ":")
	line, err := strconv.Atoi(digits)
	p := Place{Name: name, Line: line}
	if err != nil || strconv.Itoa(line) != digits || !p.mayBe() {
		return Place{}, false
	}
	return p.copied(), true
}
