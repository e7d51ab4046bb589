package value_test

import (
	"math"
	"math/rand"
	"strconv"
	"strings"
	"testing"

	"errata/api"
	"errata/text"
	"errata/value"
)

// floatText is laid out from a float's fewest digits and its exponent, as the chapter says.
func floatText(x float64) string {
	switch {
	case x != x:
		return "NaN"
	case x > math.MaxFloat64:
		return "+Inf"
	case x < -math.MaxFloat64:
		return "-Inf"
	}
	mantissa, tail, _ := strings.Cut(strconv.FormatFloat(math.Abs(x), 'e', -1, 64), "e")
	exponent, _ := strconv.Atoi(tail)
	digits := strings.Replace(mantissa, ".", "", 1)
	sign := ""
	if math.Signbit(x) {
		sign = "-"
	}
	if exponent < -4 || exponent > 5 {
		return sign + mantissa + "e" + tail
	}
	if exponent < 0 {
		return sign + "0." + strings.Repeat("0", -exponent-1) + digits
	}
	for len(digits) < exponent+2 {
		digits += "0"
	}
	return sign + digits[:exponent+1] + "." + digits[exponent+1:]
}

func someFloats() []float64 {
	all := []float64{nan, minusNaN, oddNaN, inf, minusInf, 0, minus0, math.MaxFloat64, math.SmallestNonzeroFloat64, 2.2250738585072014e-308}
	for exponent := -12; exponent < 24; exponent++ {
		at := math.Pow10(exponent)
		for _, x := range []float64{at, math.Nextafter(at, 0), math.Nextafter(at, inf), 1.5 * at, 9.99 * at, 1.2345678901234567 * at} {
			all = append(all, x, -x)
		}
	}
	draw := rand.New(rand.NewSource(5))
	for range 2000 {
		all = append(all, drawnFloat(draw))
	}
	return all
}

func TestP2_5Float(t *testing.T) {
	for _, x := range someFloats() {
		if s := value.Float(x); s != floatText(x) {
			t.Errorf("Float(%g): %s, not %s", x, s, floatText(x))
		}
	}
	for s, x := range map[string]float64{
		"1.0": 1, "100000.0": 100000, "999999.0": 999999, "1e+06": 1e6, "1.5e+06": 1.5e6, "123456.5": 123456.5, "-0.0": minus0, "0.0": 0,
		"0.0001": 0.0001, "1e-05": 0.00001, "9.9e-05": 0.000099, "1e+100": 1e100, "0.1": 0.1, "1e+21": 1e21,
		"5e-324": math.SmallestNonzeroFloat64, "1.7976931348623157e+308": math.MaxFloat64, "9.007199254740992e+15": 1 << 53,
	} {
		if told := value.Float(x); told != s {
			t.Errorf("Float: %s, not %s", told, s)
		}
	}
}

func TestP2_5Complex(t *testing.T) {
	some := []float64{nan, minusNaN, inf, minusInf, 0, minus0, 1, -1, 2.5, 1e6, -1e6, 1e-5, -1e-5, 0.1, -123456}
	for _, re := range some {
		for _, im := range some {
			plus := "+"
			if im < 0 || im > math.MaxFloat64 || im == 0 && math.Signbit(im) {
				plus = ""
			}
			asked := "(" + floatText(re) + plus + floatText(im) + "i)"
			if s := value.Complex(complex(re, im)); s != asked {
				t.Errorf("Complex: %s, not %s", s, asked)
			}
			if s, e := value.Text(pair(re, im)); s != asked || e != api.OK {
				t.Errorf("Text: %s, %d, not %s", s, e, asked)
			}
		}
	}
	for s, x := range map[string]complex128{
		"(1.0+2.0i)": 1 + 2i, "(0.0-Infi)": complex(0, minusInf), "(NaN+NaNi)": complex(nan, nan), "(NaN+NaNi) ": complex(minusNaN, minusNaN),
		"(-0.0-0.0i)": complex(minus0, minus0), "(+Inf+Infi)": complex(inf, inf), "(1e+06-1e-05i)": complex(1e6, -1e-5),
	} {
		if told := value.Complex(x); told != strings.TrimSpace(s) {
			t.Errorf("Complex: %s, not %s", told, s)
		}
	}
}

// textOf is a value's text as the chapter says it, item by item.
func textOf(v api.Value) string {
	switch v.Kind {
	case api.ValBool:
		return []string{"false", "true"}[v.Int]
	case api.ValInt:
		return strconv.FormatInt(v.Int, 10)
	case api.ValFloat:
		return floatText(v.Re)
	case api.ValComplex:
		return value.Complex(complex(v.Re, v.Im))
	case api.ValText:
		return text.Quote(v.Text)
	case api.ValBytes:
		told := ""
		for i := range len(v.Text) {
			told += "0123456789abcdef"[v.Text[i]>>4:][:1] + "0123456789abcdef"[v.Text[i]&15:][:1]
		}
		return `x"` + told + `"`
	case api.ValList:
		var items []string
		for _, item := range v.List {
			items = append(items, textOf(item))
		}
		return "[" + strings.Join(items, ", ") + "]"
	}
	return "none"
}

func TestP2_5Text(t *testing.T) {
	for _, v := range someValues() {
		if s, e := value.Text(v); s != textOf(v) || e != api.OK {
			t.Errorf("Text(%v): %s, %d, not %s", v, s, e, textOf(v))
		}
	}
	for i, x := range []struct {
		v api.Value
		s string
	}{
		{truth(true), "true"}, {truth(false), "false"}, {integer(-5), "-5"}, {integer(math.MinInt64), "-9223372036854775808"}, {integer(0), "0"},
		{float(1), "1.0"}, {float(100000), "100000.0"}, {float(1e6), "1e+06"}, {float(minus0), "-0.0"}, {pair(1, 2), "(1.0+2.0i)"},
		{pair(0, minusInf), "(0.0-Infi)"}, {pair(nan, nan), "(NaN+NaNi)"}, {octets("\x00\xff"), `x"00ff"`}, {octets(""), `x""`},
		{words("a\n\""), `"a\x0a\""`}, {list(none(), words("a")), `[none, "a"]`}, {list(), "[]"}, {list(list(), integer(1), list(list())), "[[], 1, [[]]]"}, {none(), "none"},
	} {
		if s, e := value.Text(x.v); s != x.s || e != api.OK {
			t.Errorf("%d: %s, %d", i, s, e)
		}
	}
	for i, v := range ill() {
		if s, e := value.Text(v); s != "" || e != api.ErrValue {
			t.Errorf("Text of the ill value %d: %.20s, %d", i, s, e)
		}
	}
}

func TestP2_5Parse(t *testing.T) {
	for _, x := range []struct {
		s string
		v api.Value
	}{
		{"1", integer(1)}, {"1.0", float(1)}, {"-9223372036854775808", integer(math.MinInt64)}, {"9223372036854775807", integer(math.MaxInt64)},
		{"1e+06", float(1e6)}, {"-0.0", float(minus0)}, {"NaN", float(nan)}, {"+Inf", float(inf)}, {"-Inf", float(minusInf)}, {"5e-324", float(math.SmallestNonzeroFloat64)},
		{"(1e+06-1e-05i)", pair(1e6, -1e-5)}, {"(-1e-05+NaNi)", pair(-1e-5, nan)}, {"(NaN-Infi)", pair(nan, minusInf)}, {"(+Inf+Infi)", pair(inf, inf)},
		{`"a, b]"`, words("a, b]")}, {`x"00ff"`, octets("\x00\xff")}, {`x""`, octets("")}, {`""`, words("")}, {"[]", list()},
		{`[none, "a", [true, (1.0+2.0i)], x"61", -1, [[]], NaN]`, list(none(), words("a"), list(truth(true), pair(1, 2)), octets("a"), integer(-1), list(list()), float(nan))},
	} {
		if v, e := value.Parse(x.s); !alike(v, x.v) || e != api.OK {
			t.Errorf("Parse(%s): %v, %d", x.s, v, e)
		}
	}
}

// noTexts are texts of no value.
func noTexts() []string {
	all := []string{
		"", " ", "1.50", "01", "+1", "[ ]", "true ", "1e+21 ", "-0", "00", "1.", ".5", "1e6", "1e+6", "1E+06", "1000000.0", "1e+05", "0.00001", "1e-4", "1.00", "+1.0", "--1", "1_000", "0x10", "0x1p-2",
		"9223372036854775808", "-9223372036854775809", "1e+309", "-1e+999", "nan", "-NaN", "+NaN", "Inf", "+inf", "+Infinity", "Infinity", "0.30000000000000001",
		"None", "nonee", "none none", "TRUE", "t", "falsee", "nil",
		"(", "()", "(i)", "(1.0i)", "(1.0+i)", "(1.0+2.0)", "(1.0+2.0i", "(1+2i)", "(1.0 + 2.0i)", "(1.0++2.0i)", "(1.0--2.0i)", "(1.0+-2.0i)", "(+1.0+2.0i)", "(1.0+Infi)+", "(0.0++Infi)", "(1.0NaNi)",
		"(NaN-NaNi)", "(NaNNaNi)", "(1e+06)", "(1e+06i)", "(1.0+2.0i))", "(1.0+2.0i)i)", "((1.0+2.0i)", "(1.0+2.0I)", "(+Inf+infi)", "(1.0+1e6i)", "1.0+2.0i", "(1.0,2.0i)", "(1.0+2.0i+3.0i)",
		`"`, `"a`, `a"`, `"a"b"`, `"\x41"`, `"\xFF"`, "\"\n\"", "\"\xff\"", `"a" `, ` "a"`, `'a'`,
		`x`, `x"`, `x"0"`, `x"00`, `x"000"`, `x"0g"`, `x"FF"`, `x"fF"`, `x"00"0"`, `x'00'`, `X"00"`, `x"00 "`, `x"+1"`, `x"0_"`, `x"-1"`, `x"00""`,
		"[", "]", "[]]", "[[]", "[,]", "[1,2]", "[1,  2]", "[1 , 2]", "[1, ]", "[, 1]", "[1 2]", "[1]2", "[1, 2", "[1, 2,", "[ 1]", "[1 ]", "[none,none]", "[] ", "[][]", "[1][2]", "[01]", "[1; 2]", "1, 2", ",", "1]",
		"\xff", "\x00", "1\x00", "é",
		`"` + strings.Repeat("w", api.MaxWord+1) + `"`, `x"` + strings.Repeat("00", api.MaxWord+1) + `"`,
		strings.Repeat("[", 17) + strings.Repeat("]", 17), strings.Repeat("[", 17) + "1" + strings.Repeat("]", 17),
		textOf(many(1024, none())), textOf(list(many(1023, integer(1)))), textOf(many(512, list(none()))), textOf(list(doubled(9), doubled(9), none(), none())),
	}
	for _, s := range all {
		if !strings.ContainsAny(s, ",]") {
			all = append(all, "["+s+", 1]")
		}
	}
	return append(all, strings.Repeat("[", 1<<23), "["+strings.Repeat("none, ", 1<<20), strings.Repeat("1", 1<<20), strings.Repeat(`"`, 1<<20), strings.Repeat("(", 1<<20), strings.Repeat(`x"`, 1<<20), strings.Repeat(`x`, 1<<20))
}

func TestP2_5ParseOfNoText(t *testing.T) {
	for _, s := range noTexts() {
		if v, e := value.Parse(s); !alike(v, none()) || e != api.ErrForm {
			t.Errorf("Parse(%.60q): %v, %d", s, v, e)
		}
	}
}

// checkParsed holds one text against the promise: if it is read, then as a value whose text it is; else nothing is told.
func checkParsed(t *testing.T, s string) {
	t.Helper()
	v, e := value.Parse(s)
	switch {
	case e == api.ErrForm && alike(v, none()):
	case e == api.OK && value.Check(v) == api.OK && textOf(v) == s:
	default:
		t.Errorf("Parse(%q): %v, %d", s, v, e)
	}
}

func TestP2_5ParseOfShortTexts(t *testing.T) {
	const signs = "01.-+e[], x\"()iNa"
	texts := []string{""}
	for range 4 {
		var longer []string
		for _, s := range texts {
			for i := range len(signs) {
				longer = append(longer, s+signs[i:i+1])
			}
		}
		for _, s := range longer {
			checkParsed(t, s)
		}
		texts = longer
	}
}

func TestP2_5ParseOfSpoiltTexts(t *testing.T) {
	const signs = "01.-+e[], x\"()iNanf\\\xff"
	for _, v := range someValues() {
		s := textOf(v)
		if len(s) > 60 {
			continue
		}
		for i := range len(s) {
			checkParsed(t, s[:i])
			checkParsed(t, s[:i]+s[i+1:])
			for j := range len(signs) {
				checkParsed(t, s[:i]+signs[j:j+1]+s[i:])
				checkParsed(t, s[:i]+signs[j:j+1]+s[i+1:])
			}
		}
	}
}

// TestP2_7ThereAndBackAsText: Parse of Text is the value, Text of what Parse tells the text, and one text is of values alike alone.
func TestP2_7ThereAndBackAsText(t *testing.T) {
	of := map[string]api.Value{}
	for _, v := range someValues() {
		s, _ := value.Text(v)
		read, e := value.Parse(s)
		if !alike(read, v) || e != api.OK {
			t.Errorf("Parse(%.60s): %v, %d", s, read, e)
		}
		if again, _ := value.Text(read); again != s {
			t.Errorf("%s, not %s", again, s)
		}
		if other, ok := of[s]; ok && !alike(other, v) {
			t.Errorf("%s: of %v and of %v", s, other, v)
		}
		of[s] = v
	}
	for _, x := range someFloats() {
		if read, e := value.Parse(value.Float(x)); !alike(read, float(x)) || e != api.OK {
			t.Errorf("Parse(%s): %v, %d", value.Float(x), read, e)
		}
	}
}

func TestP2_7OneTextJustIfAlike(t *testing.T) {
	all := someValues()
	for _, a := range all {
		for _, b := range all {
			s, _ := value.Text(a)
			u, _ := value.Text(b)
			if d, _ := value.Compare(a, b); (d == 0) != (s == u) {
				t.Errorf("%.60s, %.60s: %d", s, u, d)
			}
		}
		if len(all) > 150 {
			all = all[:150]
		}
	}
}
