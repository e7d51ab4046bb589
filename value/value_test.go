package value_test

import (
	"math"
	"reflect"
	"strings"
	"testing"

	"errata/api"
	"errata/value"
)

func TestP2_1Check(t *testing.T) {
	for _, v := range someValues() {
		if e := value.Check(v); e != api.OK {
			t.Errorf("Check(%v): %d", v, e)
		}
	}
	for i, v := range ill() {
		if e := value.Check(v); e != api.ErrValue {
			t.Errorf("Check of the ill value %d: %d", i, e)
		}
	}
	for n := range 256 {
		v := api.Value{Kind: uint8(n)}
		if e := value.Check(v); (e == api.OK) != (n < 8) {
			t.Errorf("Check of Kind %d: %d", n, e)
		}
	}
}

func TestP2_1CheckAtTheBounds(t *testing.T) {
	at := []api.Value{
		words(strings.Repeat("w", 4096)), octets(strings.Repeat("w", 4096)), nested(16, none()), nested(15, list()), nested(15, list(none(), none())),
		many(1023, none()), list(many(1022, none())), many(511, list(none())), doubled(10), list(doubled(9), doubled(9), none()),
	}
	behind := []api.Value{
		words(strings.Repeat("w", 4097)), octets(strings.Repeat("w", 4097)), nested(17, none()), nested(16, list()), nested(16, list(none(), none())),
		many(1024, none()), list(many(1023, none())), many(512, list(none())), doubled(11), list(doubled(9), doubled(9), none(), none()),
	}
	for i := range at {
		if e := value.Check(at[i]); e != api.OK {
			t.Errorf("%d: at the bound: %d", i, e)
		}
		if e := value.Check(behind[i]); e != api.ErrValue {
			t.Errorf("%d: behind the bound: %d", i, e)
		}
	}
}

// asGo is the Go value by the chapter's table.
func asGo(v api.Value) any {
	switch v.Kind {
	case api.ValBool:
		return v.Int != 0
	case api.ValInt:
		return v.Int
	case api.ValFloat:
		return v.Re
	case api.ValComplex:
		return complex(v.Re, v.Im)
	case api.ValText:
		return v.Text
	case api.ValBytes:
		return append([]byte{}, v.Text...)
	case api.ValList:
		items := []any{}
		for _, item := range v.List {
			items = append(items, asGo(item))
		}
		return items
	}
	return nil
}

// alikeGo is DeepEqual, but that a NaN is alike to a NaN; a nil list is unlike an empty one.
func alikeGo(a, b any) bool {
	switch a := a.(type) {
	case float64:
		b, ok := b.(float64)
		return ok && alikeFloats(a, b)
	case complex128:
		b, ok := b.(complex128)
		return ok && alikeFloats(real(a), real(b)) && alikeFloats(imag(a), imag(b))
	case []any:
		b, ok := b.([]any)
		if !ok || len(a) != len(b) || (a == nil) != (b == nil) {
			return false
		}
		for i := range a {
			if !alikeGo(a[i], b[i]) {
				return false
			}
		}
		return true
	}
	return reflect.DeepEqual(a, b)
}

func TestP2_1Any(t *testing.T) {
	for _, v := range someValues() {
		x, e := value.Any(v)
		if e != api.OK || !alikeGo(x, asGo(v)) {
			t.Errorf("Any(%v): %#v, %d", v, x, e)
		}
	}
	for i, v := range ill() {
		if x, e := value.Any(v); x != nil || e != api.ErrValue {
			t.Errorf("Any of the ill value %d: %v, %d", i, x, e)
		}
	}
}

func TestP2_1AnyWithoutItems(t *testing.T) {
	for _, v := range []api.Value{{Kind: api.ValList}, {Kind: api.ValList, List: []api.Value{}}, list(list()), list(octets(""))} {
		x, _ := value.Any(v)
		items, ok := x.([]any)
		if !ok || items == nil {
			t.Fatalf("Any(%v): %#v", v, x)
		}
		if len(items) == 1 && reflect.ValueOf(items[0]).IsNil() {
			t.Errorf("Any(%v): %#v", v, x)
		}
	}
	x, _ := value.Any(octets(""))
	if b, ok := x.([]byte); !ok || b == nil || len(b) != 0 {
		t.Errorf("no bytes: %#v", x)
	}
}

// scribble writes over a Go value, and behind the ends of its lists.
func scribble(x any) {
	switch x := x.(type) {
	case []byte:
		x = x[:cap(x)]
		for i := range x {
			x[i] = '#'
		}
	case []any:
		for _, item := range x {
			scribble(item)
		}
		x = x[:cap(x)]
		for i := range x {
			x[i] = "#"
		}
	}
}

func TestP2_1AnyIsNewMemory(t *testing.T) {
	inner := list(octets("ab"), octets("cd"), list(integer(1), integer(2)))
	v := list(inner, inner, list(inner.List[:1]...), octets("ab"))
	was := kept(v)
	x, _ := value.Any(v)
	y, _ := value.Any(v)
	items := x.([]any)
	scribble(items[0])
	scribble(items[2])
	if !alike(v, was) || !alikeGo(y, asGo(was)) || !alikeGo(items[1], asGo(inner)) || !alikeGo(items[3], asGo(octets("ab"))) {
		t.Errorf("%v; %v; %v", v, y, x)
	}
}

// TestP2_1NothingIsChanged holds R3 of all calls: what is handed in is as it was, with what stands behind the ends of its lists.
func TestP2_1NothingIsChanged(t *testing.T) {
	room := []api.Value{integer(1), list(float(2), none()), words("a"), integer(99), integer(100)}
	v := list(room[:3]...)
	was := kept(list(room...))
	value.Check(v)
	value.Any(v)
	value.Same(v, v)
	value.Compare(v, v)
	value.Plus(v, v)
	value.Plus(v, none())
	value.Text(v)
	value.Encode(v)
	if !alike(list(room...), was) {
		t.Errorf("%v", room)
	}
}

func TestExamplesOfCheck(t *testing.T) {
	for i, v := range []api.Value{{Kind: 8}, {Kind: api.ValBool, Int: 2}, {Kind: api.ValInt, Re: math.Copysign(0, -1)}, nested(17, none()), many(1024, none())} {
		if e := value.Check(v); e != api.ErrValue {
			t.Error(i, e)
		}
	}
}
