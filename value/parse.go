package value

import (
	"strconv"
	"strings"

	"errata/api"
	"errata/text"
)

// Parse is the value whose text it is.
func Parse(s string) (api.Value, api.Errno) {
	r := newReader(s)
	x, ok := r.item()
	if !ok {
		return api.Value{}, api.ErrForm
	}
	v := plainData(x)
	// Much is read that Text never writes (01, +1, 1.50, capital digits, what has something behind it), so that s is held against what Text does write.
	if t, e := Text(v); e != api.OK || t != s {
		return api.Value{}, api.ErrForm
	}
	return v, api.OK
}

// reader takes Go values from the front of a text or of bytes.
type reader struct {
	rest string
	left int // how many values there may still be: no more is read, and no deeper, than a value's whole tree may be
}

func newReader(s string) reader { return reader{rest: s, left: api.MaxTree} }

// took takes a word, if the rest begins with it.
func (r *reader) took(word string) bool {
	rest, ok := strings.CutPrefix(r.rest, word)
	r.rest = rest
	return ok
}

// upTo takes what stands ahead of an end, and the end.
func (r *reader) upTo(end string) (string, bool) {
	s, rest, ok := strings.Cut(r.rest, end)
	r.rest = rest
	return s, ok
}

// item takes the value that stands next.
func (r *reader) item() (any, bool) {
	if r.left == 0 {
		return nil, false
	}
	r.left--
	switch {
	case r.took("none"):
		return nil, true
	case r.took("true"):
		return true, true
	case r.took("false"):
		return false, true
	case r.took("("):
		return r.complexNumber()
	case r.took(`x"`):
		return r.hexBytes()
	case r.took("["):
		return r.items()
	case strings.HasPrefix(r.rest, `"`):
		return r.quotes()
	}
	return r.number()
}

// items takes the rest of a list whose bracket was taken.
func (r *reader) items() (any, bool) {
	read := []any{}
	if r.took("]") {
		return read, true
	}
	for {
		x, ok := r.item()
		if !ok {
			return nil, false
		}
		read = append(read, x)
		if r.took("]") {
			return read, true
		}
		if !r.took(", ") {
			return nil, false
		}
	}
}

func (r *reader) quotes() (any, bool) {
	s, n, e := text.Front(r.rest)
	r.rest = r.rest[n:]
	return s, e == api.OK
}

func (r *reader) hexBytes() (any, bool) {
	digits, ok := r.upTo(`"`)
	if !ok {
		return nil, false
	}
	read := []byte{}
	for ; len(digits) >= 2; digits = digits[2:] {
		b, err := strconv.ParseUint(digits[:2], 16, 8)
		if err != nil {
			return nil, false
		}
		read = append(read, byte(b))
	}
	return read, true
}

func (r *reader) number() (any, bool) {
	end := strings.IndexAny(r.rest, ",]")
	if end < 0 {
		end = len(r.rest)
	}
	s := r.rest[:end]
	r.rest = r.rest[end:]
	if n, err := strconv.ParseInt(s, 10, 64); err == nil {
		return n, true
	}
	x, err := strconv.ParseFloat(s, 64)
	return x, err == nil
}

func (r *reader) complexNumber() (any, bool) {
	s, ok := r.upTo("i)")
	if !ok {
		return nil, false
	}
	sign := signBetween(s)
	re, errRe := strconv.ParseFloat(s[:sign], 64)
	im, errIm := strconv.ParseFloat(strings.TrimPrefix(s[sign:], "+"), 64)
	return complex(re, im), errRe == nil && errIm == nil
}

// signBetween is where the imaginary part's sign stands: the first one that is neither the real part's own nor its exponent's.
func signBetween(s string) int {
	for i := 1; i < len(s); i++ {
		if (s[i] == '+' || s[i] == '-') && s[i-1] != 'e' {
			return i
		}
	}
	return len(s)
}
