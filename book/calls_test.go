package book

// Which methods are called, and how often, can't be seen of the errors that Make makes: here others are laid into a book.

import (
	"errors"
	"testing"

	"errata/api"
	"errata/kinds"
)

// mute is an error none of whose methods may be called.
type mute struct{}

func (mute) Error() string     { panic("Error of a mute") }
func (mute) Is(error) bool     { panic("Is of a mute") }
func (mute) As(any) bool       { panic("As of a mute") }
func (mute) Unwrap() []error   { panic("Unwrap of a mute") }
func (mute) Kind() uint8       { panic("Kind of a mute") }
func (mute) Grade() int8       { panic("Grade of a mute") }
func (mute) Code() int16       { panic("Code of a mute") }
func (mute) Weight() float64   { panic("Weight of a mute") }
func (mute) Timeout() bool     { panic("Timeout of a mute") }
func (mute) Line() int16       { panic("Line of a mute") }
func (mute) Details() []string { panic("Details of a mute") }
func (mute) Len() int          { panic("Len of a mute") }
func (mute) String() string    { panic("String of a mute") }
func (mute) Made() bool        { panic("Made of a mute") }
func (mute) Phase() complex128 { panic("Phase of a mute") }

// counted tells how often its Error was called, and what it then does.
type counted struct {
	calls *int
	does  func() string
}

func (c counted) Error() string {
	*c.calls++
	return c.does()
}

func (b *Book) lay(err error) int {
	b.kept = append(b.kept, &entry{err: err, spec: api.Spec{Kind: api.KindNote}, bulk: bulk{size: 1, depth: 1}})
	return len(b.kept)
}

func TestR7NoMethodIsCalled(t *testing.T) {
	b := New()
	h := b.lay(mute{})
	for _, s := range []api.Spec{{Kind: 13}, {Kind: 14}, {Kind: 15}, {Kind: 16}, {Kind: 17}, {Kind: 20}, {Kind: 26, Items: []string{"n"}}} {
		s.Parts = []int{h}
		if g, e := b.Make(s); g != b.Len() || e != api.OK {
			t.Fatal(g, e)
		}
	}
	for _, s := range []api.Spec{{Kind: 18}, {Kind: 25}} {
		s.Parts = []int{h}
		if g, e := b.Make(s); g != 0 || e != api.ErrPart {
			t.Fatal(g, e)
		}
	}
	for _, c := range []*Book{b, b.Copy()} {
		n := 0
		for g, err := range c.Each() {
			n++
			same, e := c.Error(g)
			if _, ok := same.(mute); e != api.OK || err == nil || ok != (g == h) {
				t.Fatal(g, e, ok)
			}
			c.Spec(g)
			c.Kind(g)
			c.Parts(g)
			c.Size(g)
			c.Depth(g)
			c.Length(g)
		}
		if n != 8 {
			t.Error("errors:", n)
		}
	}
}

func TestP5_3CalledOnce(t *testing.T) {
	for _, x := range []struct {
		does func() string
		text string
		p    api.Panic
	}{
		{func() string { return "text" }, "text", api.Panic{}},
		{func() string { return "" }, "", api.Panic{}},
		{func() string { panic(kinds.Note("gone")) }, "", api.Panic{Sort: api.OwnPanic, Word: "gone"}},
		{func() string { panic(kinds.Note("")) }, "", api.Panic{Sort: api.OwnPanic}},
		{func() string { panic("a string") }, "", api.Panic{Sort: api.RuntimePanic}},
		{func() string { panic(nil) }, "", api.Panic{Sort: api.RuntimePanic}},
		{func() string { panic(kinds.Code(3)) }, "", api.Panic{Sort: api.RuntimePanic}},
		{func() string { panic(errors.New("an error")) }, "", api.Panic{Sort: api.RuntimePanic}},
		{func() string { panic(mute{}) }, "", api.Panic{Sort: api.RuntimePanic}},
		{func() string { return []string{}[len("x")] }, "", api.Panic{Sort: api.RuntimePanic}},
	} {
		calls := 0
		b := New()
		h := b.lay(counted{&calls, x.does})
		for round := range 3 {
			text, p, e := b.Text(h)
			if text != x.text || p != x.p || e != api.OK || calls != round+1 {
				t.Errorf("%q %v %d, called %d times in %d rounds", text, p, e, calls, round+1)
			}
		}
	}
}
