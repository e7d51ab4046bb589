package value

import (
	"math"
	"strings"

	"errata/api"
)

// The bytes of a number, and of how many bytes or items there are.
const (
	numberSize = 8
	countSize  = 2
)

// Encode is a value's bytes.
func Encode(v api.Value) (string, api.Errno) {
	x, e := Any(v)
	if e != api.OK {
		return "", e
	}
	return string(appendBytes(nil, x)), api.OK
}

// Decode is the value whose bytes they are.
func Decode(s string) (api.Value, api.Errno) {
	r := newReader(s)
	x, ok := r.coded()
	if !ok {
		return api.Value{}, api.ErrForm
	}
	v := plainData(x)
	// Much is read that Encode never writes (a bool that is 2, some bits of NaN, what has something behind it), so that s is held against what Encode does write.
	if t, e := Encode(v); e != api.OK || t != s {
		return api.Value{}, api.ErrForm
	}
	return v, api.OK
}

func appendBytes(to []byte, x any) []byte {
	to = append(to, kindOf(x))
	switch x := x.(type) {
	case bool:
		to = append(to, byte(bit(x)))
	case int64:
		to = appendNumber(to, uint64(x), numberSize)
	case float64:
		to = appendBits(to, x)
	case complex128:
		to = appendBits(appendBits(to, real(x)), imag(x))
	case string:
		to = append(appendNumber(to, uint64(len(x)), countSize), x...)
	case []byte:
		to = append(appendNumber(to, uint64(len(x)), countSize), x...)
	case []any:
		to = appendNumber(to, uint64(len(x)), countSize)
		for _, item := range x {
			to = appendBytes(to, item)
		}
	}
	return to
}

// appendBits tells every NaN by the same bits, so that no bytes hang on which one came in.
func appendBits(to []byte, x float64) []byte {
	bits := math.Float64bits(x)
	if math.IsNaN(x) {
		bits = 0x7FF8 << 48
	}
	return appendNumber(to, bits, numberSize)
}

func appendNumber(to []byte, n uint64, size int) []byte {
	for shift := 8 * (size - 1); shift >= 0; shift -= 8 {
		to = append(to, byte(n>>shift))
	}
	return to
}

// coded takes the value that stands next as bytes.
func (r *reader) coded() (any, bool) {
	kind, ok := r.take(1)
	if !ok || r.left == 0 {
		return nil, false
	}
	r.left--
	switch kind[0] {
	case api.ValNone:
		return nil, true
	case api.ValBool:
		n, ok := r.whole(1)
		return n == 1, ok
	case api.ValInt:
		n, ok := r.whole(numberSize)
		return int64(n), ok
	case api.ValFloat:
		return r.float()
	case api.ValComplex:
		re, okRe := r.float()
		im, okIm := r.float()
		return complex(re, im), okRe && okIm
	case api.ValText:
		s, ok := r.counted()
		return strings.Clone(s), ok
	case api.ValBytes:
		s, ok := r.counted()
		return []byte(s), ok
	case api.ValList:
		return r.codedItems()
	}
	return nil, false
}

// codedItems takes the rest of a list whose Kind was taken.
func (r *reader) codedItems() (any, bool) {
	n, ok := r.whole(countSize)
	if !ok {
		return nil, false
	}
	read := []any{}
	for range n {
		x, ok := r.coded()
		if !ok {
			return nil, false
		}
		read = append(read, x)
	}
	return read, true
}

func (r *reader) take(n int) (string, bool) {
	if n > len(r.rest) {
		return "", false
	}
	s := r.rest[:n]
	r.rest = r.rest[n:]
	return s, true
}

func (r *reader) whole(size int) (uint64, bool) {
	s, ok := r.take(size)
	var n uint64
	for i := range len(s) {
		n = n<<8 | uint64(s[i])
	}
	return n, ok
}

func (r *reader) float() (float64, bool) {
	n, ok := r.whole(numberSize)
	return math.Float64frombits(n), ok
}

func (r *reader) counted() (string, bool) {
	n, ok := r.whole(countSize)
	if !ok {
		return "", false
	}
	return r.take(int(n))
}
