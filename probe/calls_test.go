package probe

// What no error of a book shows is shown here of others: which methods are called, how often and in which order, and what is told of faces that no kind has.

import (
	"errors"
	"reflect"
	"slices"
	"testing"

	"errata/api"
	"errata/kinds"
)

// log has the names of the methods that were called, in order.
type log struct{ calls []string }

func (l *log) call(name string) { l.calls = append(l.calls, name) }

// Each has just the methods that its name says, and logs their calls.
type (
	loggedError  struct{ *log }
	loggedGrader struct{ *log }
	loggedCoder  struct{ *log }
	loggedWeight struct{ *log }
	loggedTimer  struct{ *log }
	loggedOne    struct{ *log }
	loggedMany   struct{ *log }
	loggedJudge  struct{ *log }
	loggedLender struct{ *log }
	loggedNobody struct{ *log }
	loggedTimed  struct {
		loggedError
		loggedTimer
	}
	loggedCause struct {
		loggedOne
		loggedCoder
	}
	loggedWhole struct {
		loggedError
		loggedGrader
		loggedWeight
		loggedTimer
	}
)

func (l loggedError) Error() string    { l.call("Error"); return "text" }
func (l loggedGrader) Grade() int8     { l.call("Grade"); return -7 }
func (l loggedCoder) Code() int16      { l.call("Code"); return 300 }
func (l loggedWeight) Weight() float64 { l.call("Weight"); return 0.5 }
func (l loggedTimer) Timeout() bool    { l.call("Timeout"); return true }
func (l loggedOne) Unwrap() error      { l.call("Unwrap"); return errors.New("cause") }
func (l loggedMany) Unwrap() []error   { l.call("Unwrap"); return make([]error, 3) }
func (l loggedJudge) Is(t error) bool  { l.call("Is"); return t == nil }
func (l loggedNobody) Never()          { l.call("Never") }

// As lends nothing, and says so; what it was handed it logs.
func (l loggedLender) As(target any) bool {
	l.call("As " + reflect.TypeOf(target).String())
	return false
}

// TestR7Calls: a call calls the methods of its face, each once, in the face's order, and no other one.
func TestR7Calls(t *testing.T) {
	text, code := api.Value{Kind: api.ValText, Text: "text"}, api.Value{Kind: api.ValInt, Int: 300}
	grade, weight := api.Value{Kind: api.ValInt, Int: -7}, api.Value{Kind: api.ValFloat, Re: 0.5}
	yes, no := api.Value{Kind: api.ValBool, Int: 1}, api.Value{Kind: api.ValBool}
	nought, three := api.Value{Kind: api.ValInt}, api.Value{Kind: api.ValInt, Int: 3}
	list := func(items ...api.Value) api.Value { return api.Value{Kind: api.ValList, List: items} }
	for _, x := range []struct {
		of    func(*log) any
		face  uint8
		n     int
		want  api.Value
		calls []string
	}{
		{func(l *log) any { return whole(l) }, api.FaceError, 0, text, []string{"Error"}},
		{func(l *log) any { return loggedGrader{l} }, api.FaceGrader, 0, grade, []string{"Grade"}},
		{func(l *log) any { return cause(l) }, api.FaceCoder, 0, code, []string{"Code"}},
		{func(l *log) any { return whole(l) }, api.FaceWeigher, 0, weight, []string{"Weight"}},
		{func(l *log) any { return whole(l) }, api.FaceTimer, 0, yes, []string{"Timeout"}},
		{func(l *log) any { return cause(l) }, api.FaceOne, 0, yes, []string{"Unwrap"}},
		{func(l *log) any { return loggedMany{l} }, api.FaceMany, 0, three, []string{"Unwrap"}},
		{func(l *log) any { return loggedJudge{l} }, api.FaceJudge, 0, yes, []string{"Is"}},
		{func(l *log) any { return loggedLender{l} }, api.FaceLender, 0, list(no, nought), []string{"As *kinds.Coded"}},
		{func(l *log) any { return loggedLender{l} }, api.FaceLender, 1, list(no, nought), []string{"As *api.Coder"}},
		{func(l *log) any { return loggedLender{l} }, api.FaceLender, 2, list(no, nought), []string{"As *int"}},
		{func(l *log) any { return loggedLender{l} }, api.FaceLender, -1, list(no, nought), []string{"As *int"}},
		{func(l *log) any { return whole(l) }, api.FaceTimedError, 0, list(text, yes), []string{"Error", "Timeout"}},
		{func(l *log) any { return cause(l) }, api.FaceCodedCause, 0, list(yes, code), []string{"Unwrap", "Code"}},
		{func(l *log) any { return whole(l) }, api.FaceWhole, 0, list(text, grade, weight, yes), []string{"Error", "Grade", "Weight", "Timeout"}},
		{func(l *log) any { return loggedNobody{l} }, api.FaceNobody, 0, api.Value{}, nil},
		{func(l *log) any { return loggedNobody{l} }, api.FaceAny, 0, api.Value{}, nil},
	} {
		l := &log{}
		if v := called(x.of(l), x.face, nil, x.n); !reflect.DeepEqual(v, x.want) || !slices.Equal(l.calls, x.calls) {
			t.Errorf("face %d: %v by %v, not %v by %v", x.face, v, l.calls, x.want, x.calls)
		}
	}
}

func whole(l *log) loggedWhole {
	return loggedWhole{loggedError{l}, loggedGrader{l}, loggedWeight{l}, loggedTimer{l}}
}

func cause(l *log) loggedCause { return loggedCause{loggedOne{l}, loggedCoder{l}} }

// lends lends what it was made of, to either.
type lends struct{ coder api.Coder }

func (l lends) As(target any) bool {
	switch to := target.(type) {
	case *api.Coder:
		*to = l.coder
		return true
	case *kinds.Coded:
		return true
	}
	return false
}

// TestR7Lent: of what was lent Code is called once, and of nothing else.
func TestR7Lent(t *testing.T) {
	l := &log{}
	for n, code := range []int64{0, 300} {
		want := api.Value{Kind: api.ValList, List: []api.Value{{Kind: api.ValBool, Int: 1}, {Kind: api.ValInt, Int: code}}}
		if v := called(lends{cause(l)}, api.FaceLender, nil, n); !reflect.DeepEqual(v, want) {
			t.Errorf("lent to %d: %v", n, v)
		}
	}
	if !slices.Equal(l.calls, []string{"Code"}) {
		t.Error("what was called:", l.calls)
	}
}

// TestR7Unwrap: a part is told by one call of Unwrap.
func TestR7Unwrap(t *testing.T) {
	others := []uint8{api.FaceError, api.FaceCodedCause, api.FaceNobody, api.FaceAny}
	for _, face := range append(others, api.FaceOne) {
		l := &log{}
		if told := unwrapped(cause(l), face); len(told) != 1 || told[0].Error() != "cause" || len(l.calls) != 1 {
			t.Errorf("face %d of one: %v by %v", face, told, l.calls)
		}
	}
	for _, face := range append(others, api.FaceMany) {
		l := &log{}
		if told := unwrapped(loggedMany{l}, face); len(told) != 3 || len(l.calls) != 1 {
			t.Errorf("face %d of many: %v by %v", face, told, l.calls)
		}
	}
}

// TestP8_2Given: what a method gave up with is told as its own only where it is a Note.
func TestP8_2Given(t *testing.T) {
	for _, x := range []struct {
		bad  any
		want api.Panic
	}{
		{kinds.Note("n"), api.Panic{Sort: api.OwnPanic, Word: "n"}},
		{kinds.Note(""), api.Panic{Sort: api.OwnPanic}},
		{errors.New("n"), api.Panic{Sort: api.RuntimePanic}},
		{"n", api.Panic{Sort: api.RuntimePanic}},
		{kinds.Code(1), api.Panic{Sort: api.RuntimePanic}},
	} {
		if p := panicOf(x.bad); p != x.want {
			t.Errorf("of %v: %v, not %v", x.bad, p, x.want)
		}
	}
}
