package value

import (
	"bytes"
	"cmp"
	"math"
	"slices"
	"strings"

	"errata/api"
)

// Same is what comparing two Go values by == comes to.
func Same(a, b api.Value) (int, api.Errno) {
	x, y, e := twoGoValues(a, b)
	if e != api.OK {
		return 0, e
	}
	return equal(x, y), api.OK
}

// equal leaves it to the language which types can't be compared: == panics then.
func equal(a, b any) (what int) {
	defer func() {
		if recover() != nil {
			what = api.Panics
		}
	}()
	if a == b {
		return api.Same
	}
	return api.Unlike
}

// Compare tells which one stands ahead: -1, 0, 1.
func Compare(a, b api.Value) (int8, api.Errno) {
	x, y, e := twoGoValues(a, b)
	if e != api.OK {
		return 0, e
	}
	return int8(order(x, y)), api.OK
}

func order(a, b any) int {
	if d := cmp.Compare(kindOf(a), kindOf(b)); d != 0 {
		return d
	}
	switch a := a.(type) {
	case bool:
		return cmp.Compare(bit(a), bit(b.(bool)))
	case int64:
		return cmp.Compare(a, b.(int64))
	case float64:
		return orderFloats(a, b.(float64))
	case complex128:
		b := b.(complex128)
		return cmp.Or(orderFloats(real(a), real(b)), orderFloats(imag(a), imag(b)))
	case string:
		return strings.Compare(a, b.(string))
	case []byte:
		return bytes.Compare(a, b.([]byte))
	case []any:
		return slices.CompareFunc(a, b.([]any), order)
	}
	return 0
}

// orderFloats leaves to cmp all but the noughts, of which cmp doesn't see the signs.
func orderFloats(a, b float64) int {
	if a == 0 && b == 0 {
		return cmp.Compare(bit(math.Signbit(b)), bit(math.Signbit(a)))
	}
	return cmp.Compare(a, b)
}
