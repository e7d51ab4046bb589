package kinds

import (
	"errata/api"
	"errata/value"
)

// Long is how many bytes the text of a spec's error has, out of those of its parts; 0, where it would panic by itself.
func Long(s api.Spec, parts []int) int {
	if Check(s) != api.OK {
		return 0
	}
	lengths := counting(s, parts)
	switch s.Kind {
	case api.KindWrap, api.KindOver:
		return len(s.Text) + causeLong(lengths)
	case api.KindVeil:
		return len(veilText) + causeLong(lengths)
	case api.KindJoin:
		return sum(lengths) + len(partMark)*max(0, len(lengths)-1)
	case api.KindTimed, api.KindPlaced:
		return sum(lengths) // a promoted Error has nothing of its own, and panics without its part
	}
	return len(ownText(s))
}

// counting are the lengths of the parts that are errors.
func counting(s api.Spec, parts []int) []int {
	var lengths []int
	for i, handle := range s.Parts {
		if handle == 0 {
			continue
		}
		n := 0
		if i < len(parts) {
			n = min(max(parts[i], 0), api.MaxText+1)
		}
		lengths = append(lengths, n)
	}
	return lengths
}

func causeLong(lengths []int) int {
	if len(lengths) == 0 {
		return 0
	}
	return len(causeMark) + sum(lengths)
}

func sum(lengths []int) int {
	total := 0
	for _, n := range lengths {
		total += n
	}
	return total
}

// ownText is what Error tells where that hangs on no part; empty, where it panics: the spec of a nil pointer or function has no Text.
func ownText(s api.Spec) string {
	switch s.Kind {
	case api.KindCode:
		return codeText(s.Number)
	case api.KindLevel:
		return levelText(s.Re)
	case api.KindSway:
		return swayText(complex(s.Re, s.Im))
	case api.KindMark:
		return markText(Mark([]uint8(s.Text)))
	case api.KindTags:
		return tagsText(counts(s))
	case api.KindLine:
		return lineText
	case api.KindTwin:
		return twinText(s.Number, s.Re)
	case api.KindBox:
		return boxText(boxItemText(s))
	case api.KindFull:
		return fullText(s.Text)
	case api.KindLazy, api.KindSlow:
		if s.Flag {
			return ""
		}
	case api.KindQuiet:
		if s.Nil {
			return quietText
		}
	}
	return s.Text
}

func boxItemText(s api.Spec) string {
	switch s.Number {
	case boxOfSmall:
		return decimal(s.Small)
	case boxOfFloat:
		return value.Float(s.Re)
	}
	return s.Text
}
