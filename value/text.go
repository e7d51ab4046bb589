package value

import (
	"bytes"
	"math"
	"strconv"

	"errata/api"
	"errata/text"
)

const hexDigits = "0123456789abcdef"

// Float is a float as a text.
func Float(x float64) string { return string(appendFloat(nil, x)) }

// Complex is a complex number as a text.
func Complex(x complex128) string { return string(appendComplex(nil, x)) }

// Text is a value as a text.
func Text(v api.Value) (string, api.Errno) {
	x, e := Any(v)
	if e != api.OK {
		return "", e
	}
	return string(appendText(nil, x)), api.OK
}

func appendFloat(to []byte, x float64) []byte {
	from := len(to)
	to = strconv.AppendFloat(to, x, 'g', -1, 64)
	if math.IsNaN(x) || math.IsInf(x, 0) || bytes.ContainsAny(to[from:], ".e") {
		return to
	}
	return append(to, ".0"...)
}

func appendComplex(to []byte, x complex128) []byte {
	to = append(to, '(')
	to = appendFloat(to, real(x))
	im := Float(imag(x))
	if im[0] != '+' && im[0] != '-' {
		to = append(to, '+')
	}
	to = append(to, im...)
	return append(to, "i)"...)
}

func appendText(to []byte, x any) []byte {
	switch x := x.(type) {
	case bool:
		return strconv.AppendBool(to, x)
	case int64:
		return strconv.AppendInt(to, x, 10)
	case float64:
		return appendFloat(to, x)
	case complex128:
		return appendComplex(to, x)
	case string:
		return append(to, text.Quote(x)...)
	case []byte:
		return appendHex(to, x)
	case []any:
		return appendItems(to, x)
	}
	return append(to, "none"...)
}

func appendHex(to, x []byte) []byte {
	to = append(to, `x"`...)
	for _, b := range x {
		to = append(to, hexDigits[b>>4], hexDigits[b&0xF])
	}
	return append(to, '"')
}

func appendItems(to []byte, items []any) []byte {
	to = append(to, '[')
	for i, item := range items {
		if i > 0 {
			to = append(to, ", "...)
		}
		to = appendText(to, item)
	}
	return append(to, ']')
}
