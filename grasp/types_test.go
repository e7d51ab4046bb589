package grasp_test

import (
	"fmt"
	"reflect"
	"slices"
	"testing"

	"errata/api"
	"errata/book"
	"errata/grasp"
	"errata/kinds"
)

// say holds all calls for a T, of each handle of a book, against what isOne tells.
func say[T any](t *testing.T, b *book.Book) {
	t.Helper()
	var picked []T
	var row []int
	for h := range b.Len() + 1 {
		sayWithin[T](t, b, h)
		sayMust[T](t, b, h)
		sayOver[T](t, b, h)
		v, isOne := sayPick1[T](t, b, h)
		row = append(row, h, 0, h)
		if isOne {
			picked = append(picked, v, v)
		}
	}
	if got, e := grasp.Pick[T](b, row); e != api.OK || !sameRow(got, picked) {
		t.Errorf("Pick[%s] of all: %d and %d, not %d", reflect.TypeFor[T](), len(got), e, len(picked))
	}
}

func sameRow[T any](x, y []T) bool {
	return slices.EqualFunc(x, y, func(v, w T) bool { return told(v) == told(w) })
}

// sayWithin holds Find, Count and All against the row of all within.
func sayWithin[T any](t *testing.T, b *book.Book, h int) {
	t.Helper()
	var want []string
	var first, none T
	place, wrong := 0, api.ErrNone
	for at, node := range withinOf(t, b, h) {
		err := errorOf(t, b, node)
		if !isOne[T](err) {
			continue
		}
		want = append(want, fmt.Sprint(at, told(err)))
		if wrong != api.OK {
			first, place, wrong = any(err).(T), at, api.OK
		}
	}
	name := reflect.TypeFor[T]()
	if n, e := grasp.Count[T](b, h); n != len(want) || e != api.OK {
		t.Errorf("Count[%s](%d): %d %d, not %d", name, h, n, e, len(want))
	}
	v, at, e := grasp.Find[T](b, h)
	if told(v) != told(first) || at != place || e != wrong {
		t.Errorf("Find[%s](%d): %s %d %d, not %s %d %d", name, h, told(v), at, e, told(first), place, wrong)
	}
	if e != api.OK && told(v) != told(none) {
		t.Errorf("Find[%s](%d): %s beside %d", name, h, told(v), e)
	}
	var got []string
	for at, v := range grasp.All[T](b, h) {
		got = append(got, fmt.Sprint(at, told(v)))
	}
	if !slices.Equal(got, want) {
		t.Errorf("All[%s](%d): %q, not %q", name, h, got, want)
	}
}

func sayMust[T any](t *testing.T, b *book.Book, h int) {
	t.Helper()
	err := errorOf(t, b, h)
	var none T
	want, p := told(none), api.Panic{Sort: api.RuntimePanic}
	if isOne[T](err) {
		want, p = told(err), api.Panic{}
	}
	if v, got, e := grasp.Must[T](b, h); told(v) != want || got != p || e != api.OK {
		t.Errorf("Must[%s](%d): %s %v %d, not %s %v", reflect.TypeFor[T](), h, told(v), got, e, want, p)
	}
}

func sayOver[T any](t *testing.T, b *book.Book, h int) {
	t.Helper()
	err := errorOf(t, b, h)
	var calls []string
	yes := func(v T) string {
		calls = append(calls, "yes "+told(v))
		return calls[0]
	}
	no := func(err error) string {
		calls = append(calls, "no "+told(err))
		return calls[0]
	}
	want := "no " + told(err)
	onlyYes, onlyNo := api.ErrNil, api.OK
	if isOne[T](err) {
		want = "yes " + told(err)
		onlyYes, onlyNo = api.OK, api.ErrNil
	}
	name := reflect.TypeFor[T]()
	got, e := grasp.Over(b, h, yes, no)
	if got != want || e != api.OK || !slices.Equal(calls, []string{want}) {
		t.Errorf("Over[%s](%d): %s %d by %q, not %s", name, h, got, e, calls, want)
	}
	for _, c := range []struct {
		yes func(T) string
		no  func(error) string
		e   api.Errno
	}{{yes, nil, onlyYes}, {nil, no, onlyNo}, {nil, nil, api.ErrNil}} {
		calls = nil
		got, e := grasp.Over(b, h, c.yes, c.no)
		if e != c.e || (got == want) != (e == api.OK) || len(calls) > 1 || len(calls) == 0 && got != "" {
			t.Errorf("Over[%s](%d) with a nil one: %s %d by %q, not %d", name, h, got, e, calls, c.e)
		}
	}
}

// sayPick1 is a handle's error as a T, and whether it is one, by a row of it alone.
func sayPick1[T any](t *testing.T, b *book.Book, h int) (v T, isT bool) {
	t.Helper()
	err := errorOf(t, b, h)
	row, e := grasp.Pick[T](b, []int{h})
	if e != api.OK || len(row) > 1 || (len(row) == 1) != isOne[T](err) {
		t.Fatalf("Pick[%s](%d): %d %d", reflect.TypeFor[T](), h, len(row), e)
	}
	if len(row) == 0 {
		return v, false
	}
	if told(row[0]) != told(err) {
		t.Errorf("Pick[%s](%d): %s", reflect.TypeFor[T](), h, told(row[0]))
	}
	return row[0], true
}

// sought is a type by its name, and the test of all calls for it.
type sought struct {
	name string
	says func(t *testing.T, b *book.Book)
}

func typeOf[T any]() sought { return sought{reflect.TypeFor[T]().String(), say[T]} }

// kindTypes are the types of errors, each of which some are.
func kindTypes() []sought {
	return []sought{
		typeOf[kinds.Code](), typeOf[kinds.Note](), typeOf[kinds.Level](), typeOf[kinds.Sway](), typeOf[kinds.Mark](), typeOf[kinds.Tags](), typeOf[kinds.Lazy](),
		typeOf[kinds.Line](), typeOf[*kinds.Plain](), typeOf[*kinds.Quiet](), typeOf[kinds.Coded](), typeOf[kinds.Bag](), typeOf[kinds.Hold](), typeOf[*kinds.Wrap](),
		typeOf[kinds.Over](), typeOf[*kinds.Join](), typeOf[kinds.Timed](), typeOf[kinds.Placed](), typeOf[kinds.Twin](), typeOf[kinds.Veil](), typeOf[*kinds.Echo](),
		typeOf[*kinds.Guise](), typeOf[kinds.Box[int8]](), typeOf[kinds.Box[float64]](), typeOf[kinds.Box[[]uint8]](), typeOf[*kinds.Slow](), typeOf[kinds.Full](), typeOf[*kinds.Opaque](),
	}
}

// faceTypes are interfaces, the faces and anybody's own.
func faceTypes() []sought {
	type mine interface {
		Grade() int8
		Kind() uint8
	}
	return []sought{
		typeOf[error](), typeOf[api.Grader](), typeOf[api.Coder](), typeOf[api.Weigher](), typeOf[api.Phaser](), typeOf[api.Timer](), typeOf[api.Liner](),
		typeOf[api.Detailer](), typeOf[api.One](), typeOf[api.Many](), typeOf[api.Judge](), typeOf[api.Lender](), typeOf[api.Kinder](), typeOf[api.Sizer](),
		typeOf[api.TimedError](), typeOf[api.CodedCause](), typeOf[api.Whole](), typeOf[api.Nobody](), typeOf[any](),
		typeOf[mine](), typeOf[ownKinder](), typeOf[item[int8]](), typeOf[item[float64]](), typeOf[item[[]uint8]](), typeOf[item[string]](), typeOf[hidden](),
		typeOf[interface {
			error
			Held() any
		}](), typeOf[interface{ Made() bool }](), typeOf[interface {
			Name() string
			Mask() uint32
		}](), typeOf[interface {
			api.One
			api.Grader
		}](), typeOf[interface{ Grade() int16 }](), typeOf[interface{ Unwrap() any }](), typeOf[fmt.Stringer](),
	}
}

// strangeTypes are such as no error is of, alike as they may seem.
func strangeTypes() []sought {
	type Code int16
	type Plain struct{ text string }
	return []sought{
		typeOf[int](), typeOf[int16](), typeOf[string](), typeOf[float64](), typeOf[complex128](), typeOf[[4]uint8](), typeOf[map[string]int16](), typeOf[func() string](),
		typeOf[chan int8](), typeOf[struct{}](), typeOf[Code](), typeOf[*Plain](), typeOf[ownCode](), typeOf[own[int8]](), typeOf[*own[kinds.Code]](), typeOf[*kinds.Code](),
		typeOf[kinds.Plain](), typeOf[**kinds.Plain](), typeOf[kinds.Wrap](), typeOf[kinds.Box[string]](), typeOf[kinds.Box[kinds.Code]](), typeOf[*kinds.Full](), typeOf[*kinds.Coded](),
		typeOf[api.Errno](), typeOf[*error](), typeOf[[]error](), typeOf[struct{ *kinds.Plain }](), typeOf[reflect.Type](), typeOf[func(error) bool](),
	}
}

// TestP10_1To3EveryKind: of each kind, and each type, each call tells what reflection says.
func TestP10_1To3EveryKind(t *testing.T) {
	b := everyKind(t)
	for _, x := range slices.Concat(kindTypes(), faceTypes(), strangeTypes()) {
		t.Run(x.name, func(t *testing.T) { x.says(t, b) })
	}
}

func TestP10_1To3Drawn(t *testing.T) {
	for seed := range int64(6) {
		b := drawnBook(t, 100+seed)
		for _, x := range slices.Concat(kindTypes(), faceTypes(), strangeTypes()) {
			x.says(t, b)
		}
	}
}

// TestP10_4EveryKindIsOne: there is an error of each kind's type, and none of a strange one, so that the tests above ask of both.
func TestP10_4EveryKindIsOne(t *testing.T) {
	b := everyKind(t)
	types := map[reflect.Type]int{}
	for _, err := range b.Each() {
		types[reflect.TypeOf(err)]++
	}
	if len(types) != 28 || len(kindTypes()) != 28 {
		t.Error("types of errors:", len(types))
	}
}
