package value

import (
	"slices"

	"errata/api"
)

// Plus is the sum of two.
func Plus(a, b api.Value) (api.Value, api.Errno) {
	x, y, e := twoGoValues(a, b)
	if e != api.OK {
		return api.Value{}, e
	}
	if kindOf(x) == api.ValNone {
		return plainData(y), api.OK
	}
	if kindOf(y) == api.ValNone {
		return plainData(x), api.OK
	}
	x, y = widened(x, y), widened(y, x)
	if kindOf(x) != kindOf(y) {
		return api.Value{}, api.ErrUnlike
	}
	v := plainData(sum(x, y))
	if e := Check(v); e != api.OK {
		return api.Value{}, e
	}
	return v, api.OK
}

// widened is x as a number of the kind that other has, where that kind is the wider one; else x itself.
func widened(x, other any) any {
	kind := kindOf(other)
	if n, ok := x.(int64); ok && (kind == api.ValFloat || kind == api.ValComplex) {
		x = float64(n)
	}
	if f, ok := x.(float64); ok && kind == api.ValComplex {
		x = complex(f, 0)
	}
	return x
}

// sum is the sum of two of one kind, which is not ValNone.
func sum(a, b any) any {
	switch a := a.(type) {
	case bool:
		return a || b.(bool)
	case int64:
		return a + b.(int64)
	case float64:
		return a + b.(float64)
	case complex128:
		return a + b.(complex128)
	case string:
		return a + b.(string)
	case []byte:
		return slices.Concat(a, b.([]byte))
	case []any:
		return slices.Concat(a, b.([]any))
	}
	return nil
}
