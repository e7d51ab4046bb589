package kinds

import (
	"maps"
	"slices"
	"strconv"
	"strings"

	"errata/value"
)

// What Error tells stands in functions of its own, because Long tells the lengths of the same texts and may call no method.

const (
	hexDigits    = "0123456789abcdef"
	causeMark    = ": "
	partMark     = "\n"
	lineText     = "line"
	quietText    = "quiet" // of a nil Quiet
	veilText     = "veil"
	otherBoxText = "box"
)

func decimal[N int8 | int16](n N) string { return strconv.Itoa(int(n)) }

func codeText(n int16) string { return "code " + decimal(n) }

func levelText(x float64) string { return "level " + value.Float(x) }

func swayText(x complex128) string { return "sway " + value.Complex(x) }

func twinText(n int16, x float64) string { return "twin " + decimal(n) + " " + value.Float(x) }

func boxText(item string) string { return "box " + item }

func fullText(coded string) string { return "full: " + coded }

func markText(bytes [4]uint8) string {
	var b strings.Builder
	b.WriteString("mark ")
	for _, x := range bytes {
		b.WriteByte(hexDigits[x>>4])
		b.WriteByte(hexDigits[x&0xF])
	}
	return b.String()
}

func tagsText(counts map[string]int16) string {
	var b strings.Builder
	b.WriteString("tags")
	for _, key := range slices.Sorted(maps.Keys(counts)) {
		b.WriteString(" " + key + "=" + decimal(counts[key]))
	}
	return b.String()
}

func withCause(own string, cause error) string {
	if cause == nil {
		return own
	}
	return own + causeMark + cause.Error()
}

func joinedTexts(parts []error) string {
	var texts []string
	for _, part := range parts {
		if part != nil {
			texts = append(texts, part.Error())
		}
	}
	return strings.Join(texts, partMark)
}
