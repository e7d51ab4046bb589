package kinds_test

import (
	"math/rand"
	"reflect"
	"slices"
	"strings"
	"testing"
	"unsafe"

	"errata/api"
	"errata/kinds"
)

// TestP4_1Values makes each kind of an ordinary spec and looks at all that can be asked of it without Error.
func TestP4_1Values(t *testing.T) {
	if c, ok := made(api.Spec{Kind: 1, Number: -300}).(kinds.Code); !ok || c != -300 {
		t.Error("Code:", int16(c), ok)
	}
	if n, ok := made(api.Spec{Kind: 2, Text: "n\xff"}).(kinds.Note); !ok || n != "n\xff" {
		t.Error("Note:", string(n), ok)
	}
	if l, ok := made(api.Spec{Kind: 3, Re: 2.5}).(kinds.Level); !ok || l != 2.5 {
		t.Error("Level:", float64(l), ok)
	}
	if s, ok := made(api.Spec{Kind: 4, Re: 1, Im: -2}).(kinds.Sway); !ok || s != complex(1, -2) {
		t.Error("Sway:", complex128(s), ok)
	}
	if m, ok := made(api.Spec{Kind: 5, Text: "a\x00\xffd"}).(kinds.Mark); !ok || m != (kinds.Mark{'a', 0, 0xFF, 'd'}) {
		t.Error("Mark:", m, ok)
	}
	if l, ok := made(api.Spec{Kind: 7, Text: "lazy"}).(kinds.Lazy); !ok || l() != "lazy" {
		t.Error("Lazy:", ok)
	}
	if l, ok := made(api.Spec{Kind: 8}).(kinds.Line); !ok || l == nil || cap(l) != 0 || len(l) != 0 {
		t.Error("Line:", l, ok)
	}
	part := said("p")
	if h, ok := made(api.Spec{Kind: 13, Text: "h"}, part).(kinds.Hold); !ok || h.Held() != any(part) {
		t.Error("Hold:", h.Held(), ok)
	}
	x, ok := made(api.Spec{Kind: 19, Number: -3, Re: 0.5}).(kinds.Twin)
	if !ok || x != (kinds.Twin{Code: -3, Level: 0.5}) {
		t.Error("Twin:", x.Code, x.Level, ok)
	}
	p := plain("at")
	if l, ok := made(api.Spec{Kind: 18, Number: 12}, p).(kinds.Placed); !ok || l.Plain != p || l.Line() != 12 {
		t.Error("Placed:", l, ok)
	}
	w := wrap("w", part)
	f, ok := made(api.Spec{Kind: 25, Number: 9, Text: "f"}, w).(kinds.Full)
	c := made(api.Spec{Kind: 11, Number: 9, Text: "f"})
	if !ok || f.Wrap != w || error(f.Coded) != c {
		t.Error("Full:", f, ok)
	}
}

func TestP4_3HowManyParts(t *testing.T) {
	for _, r := range rows() {
		for n := range r.most + 1 {
			s := r.least
			s.Parts = slices.Repeat([]int{1}, n)
			for given := range n + 2 {
				err, e := kinds.Make(s, make([]error, given))
				if (e == api.OK) != (given == n) || e != api.OK && (e != api.ErrPart || err != nil) {
					t.Fatalf("%s of %d parts, %d given: %v %d", r.name, n, given, err, e)
				}
			}
		}
		if r.isNil {
			if err, e := kinds.Make(r.nothing(), []error{nil}); err != nil || e != api.ErrPart {
				t.Errorf("a nil %s with a part: %v %d", r.name, err, e)
			}
			if err, e := kinds.Make(r.nothing(), []error{}); err == nil || e != api.OK {
				t.Errorf("a nil %s: %v %d", r.name, err, e)
			}
		}
	}
}

// TestP4_3PartsThatMayNotBe: a Placed's part is a *Plain, a Full's a *Wrap; all others take any.
func TestP4_3PartsThatMayNotBe(t *testing.T) {
	all := append(someErrors(1), mute{}, &mute{}, said("s"), kinds.Placed{Plain: plain("p")}, kinds.Full{Wrap: wrap("w", nil)})
	for _, r := range rows() {
		if r.most == 0 {
			continue
		}
		s := r.least
		s.Parts = []int{1}
		for _, part := range all {
			want := api.OK
			_, isPlain := part.(*kinds.Plain)
			_, isWrap := part.(*kinds.Wrap)
			if s.Kind == api.KindPlaced && !isPlain || s.Kind == api.KindFull && !isWrap {
				want = api.ErrPart
			}
			if err, e := kinds.Make(s, []error{part}); e != want || (err == nil) != (e != api.OK) {
				t.Errorf("%s of a %T: %d", r.name, part, e)
			}
		}
		if err, e := kinds.Make(s, []error{nil}); err == nil || e != api.OK {
			t.Errorf("%s of no error: %d", r.name, e)
		}
		if e := kinds.Check(s); e != api.OK {
			t.Errorf("Check knows of %s no part: %d", r.name, e)
		}
	}
}

// TestP4_3TheNumbersOfParts: what the numbers in Parts are is the book's affair.
func TestP4_3TheNumbersOfParts(t *testing.T) {
	for _, number := range []int{0, 1, -1, 1 << 62, -1 << 63} {
		err, e := kinds.Make(api.Spec{Kind: 14, Text: "w", Parts: []int{number}}, []error{said("c")})
		if e != api.OK || err.Error() != "w: c" {
			t.Errorf("a part under %d: %v %d", number, err, e)
		}
	}
}

func TestP4_3NoMethodIsCalled(t *testing.T) {
	for _, r := range rows() {
		if r.most == 0 || r.least.Kind == api.KindPlaced || r.least.Kind == api.KindFull {
			continue
		}
		for n := range r.most + 1 {
			parts := slices.Repeat([]error{mute{}}, n)
			if err := made(r.least, parts...); reflect.TypeOf(err) != reflect.TypeOf(r.sample) {
				t.Errorf("%s is a %T", r.name, err)
			}
		}
	}
	slow := made(api.Spec{Kind: 24, Text: "s", Flag: true}).(*kinds.Slow)
	made(api.Spec{Kind: 14}, slow)
	made(api.Spec{Kind: 16}, slow, slow)
	if slow.Made() {
		t.Error("a Slow was asked")
	}
}

// TestP4_3NothingIsKept changes all that was handed in, the room behind the lists' ends too.
func TestP4_3NothingIsKept(t *testing.T) {
	for _, r := range rows() {
		items := []string{"k1", "k0", "k1", "behind"}
		parts := []error{said("p0"), nil, said("p2"), said("behind")}
		numbers := []int{4, 0, 5, 6}
		s := r.least
		if strings.Contains(r.fields, "l") {
			s.Items = items[:3]
		}
		if s.Kind == api.KindOpaque {
			s.Items = items[:1]
		}
		switch {
		case r.most == 1:
			s.Parts = numbers[:1]
			if s.Kind == api.KindPlaced {
				parts[0] = plain("p0")
			}
			if s.Kind == api.KindFull {
				parts[0] = wrap("p0", nil)
			}
		case r.most > 1:
			s.Parts = numbers[:3]
		}
		given := slices.Clone(parts)
		err, e := kinds.Make(s, parts[:len(s.Parts)])
		if e != api.OK {
			t.Fatal(r.name, e)
		}
		kinds.Check(s)
		kinds.Long(s, numbers[:3])
		if !slices.Equal(items, []string{"k1", "k0", "k1", "behind"}) || !slices.Equal(parts, given) || !slices.Equal(numbers, []int{4, 0, 5, 6}) {
			t.Errorf("%s: handed in were %q, %v, %v", r.name, items, parts, numbers)
		}
		before := everything(err)
		for i := range items {
			items[i], parts[i], numbers[i] = "spoilt", said("spoilt"), 0
		}
		if after := everything(err); !reflect.DeepEqual(before, after) {
			t.Errorf("%s: %v, then %v", r.name, before, after)
		}
	}
}

// everything is what the methods of an error answer that tell of more than its type.
func everything(err error) []any {
	text, p := asked(err.Error)
	all := []any{text, p}
	switch x := err.(type) {
	case kinds.Bag:
		all = append(all, x.Details())
	case kinds.Tags:
		all = append(all, x.Len())
	case kinds.Hold:
		all = append(all, x.Held())
	case *kinds.Join:
		all = append(all, x.Unwrap())
	case *kinds.Opaque:
		all = append(all, x.Unwrap(), x.Name(), x.Mask())
	case api.One:
		all = append(all, x.Unwrap())
	case kinds.Box[[]uint8]:
		all = append(all, x.Item())
	}
	return all
}

// TestR3NewLists spoils each list that a method answers, its spare room too, and asks again.
func TestR3NewLists(t *testing.T) {
	bag := made(api.Spec{Kind: 12, Items: []string{"a", "b", "c"}}).(kinds.Bag)
	join := made(api.Spec{Kind: 16}, note("a"), nil, note("c")).(*kinds.Join)
	opaque := made(api.Spec{Kind: 26, Items: []string{"n"}}, note("a"), nil, note("c")).(*kinds.Opaque)
	box := made(api.Spec{Kind: 23, Number: 3, Text: "abc"}).(kinds.Box[[]uint8])
	for range 2 {
		if l := bag.Details(); !slices.Equal(l, []string{"a", "b", "c"}) {
			t.Error("Details:", l)
		}
		for _, l := range [][]error{join.Unwrap(), opaque.Unwrap()} {
			if !slices.Equal(l, []error{note("a"), nil, note("c")}) {
				t.Error("Unwrap:", l)
			}
		}
		if l := box.Item(); string(l) != "abc" {
			t.Errorf("Item: %q", l)
		}
		spoil(bag.Details(), "spoilt")
		spoil(join.Unwrap(), note("spoilt"))
		spoil(opaque.Unwrap(), note("spoilt"))
		spoil(box.Item(), 'X')
	}
	one, other := box.Item(), box.Item()
	spoil(one, 'X')
	if string(other) != "abc" || box.Error() != "box abc" || join.Error() != "a\nc" {
		t.Errorf("%q, %q, %q", other, box.Error(), join.Error())
	}
}

func spoil[T any](l []T, with T) {
	l = l[:cap(l)]
	for i := range l {
		l[i] = with
	}
}

func TestR3WordsAreCopied(t *testing.T) {
	s := api.Spec{Kind: 12, Text: "a bag", Items: []string{"an item"}}
	bag := made(s).(kinds.Bag)
	if unsafe.StringData(bag.Error()) == unsafe.StringData(s.Text) || unsafe.StringData(bag.Details()[0]) == unsafe.StringData(s.Items[0]) {
		t.Error("a bag keeps the words that were handed in")
	}
	n := made(api.Spec{Kind: 2, Text: s.Text})
	if unsafe.StringData(n.Error()) == unsafe.StringData(s.Text) {
		t.Error("a note keeps the text that was handed in")
	}
}

// TestP4_11Nothings: an error of Nil is not no error, but a nothing of its type.
func TestP4_11Nothings(t *testing.T) {
	for _, r := range rows() {
		if !r.isNil {
			continue
		}
		err := made(r.nothing())
		if err == nil {
			t.Errorf("a nil %s is no error", r.name)
		}
		v := reflect.ValueOf(err)
		if v.Type() != reflect.TypeOf(r.sample) {
			t.Errorf("a nil %s is a %T", r.name, err)
			continue
		}
		if v.Kind() == reflect.Struct { // Tags and Box keep theirs in a field
			v = v.Field(0)
		}
		if !v.IsNil() {
			t.Errorf("a nil %s is none: %v", r.name, err)
		}
		if kept := made(api.Spec{Kind: 14}, err).(*kinds.Wrap).Unwrap(); kept == nil || reflect.TypeOf(kept) != reflect.TypeOf(r.sample) {
			t.Errorf("a nil %s as a part is %T", r.name, kept)
		}
	}
	if item := made(api.Spec{Kind: 23, Number: 3}).(kinds.Box[[]uint8]).Item(); item == nil || len(item) != 0 {
		t.Errorf("a Box of no bytes: %v", item)
	}
	if item := made(api.Spec{Kind: 23, Number: 3, Nil: true}).(kinds.Box[[]uint8]).Item(); item != nil {
		t.Errorf("a Box of a nil list: %v", item)
	}
}

// TestP4_11Pointers: two that are made of one spec are unlike as pointers, and the same as structs.
func TestP4_11Pointers(t *testing.T) {
	draw := rand.New(rand.NewSource(11))
	for _, r := range rows() {
		s, parts := r.drawn(draw)
		a, b := made(s, parts...), made(s, parts...)
		if r.isPointer() || s.Kind == api.KindLine {
			if a == b || a != a {
				t.Errorf("two of %s are the same", r.name)
			}
			if r.isNil && made(r.nothing()) != made(r.nothing()) {
				t.Errorf("two nothings of %s are unlike", r.name)
			}
		}
	}
	part := said("p")
	for _, kind := range []uint8{13, 15, 17, 20} {
		if made(api.Spec{Kind: kind}, part) != made(api.Spec{Kind: kind}, part) {
			t.Errorf("two of kind %d are unlike", kind)
		}
	}
}
