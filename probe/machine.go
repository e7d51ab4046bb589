package probe

import (
	"strings"

	"errata/api"
	"errata/book"
	"errata/compare"
	"errata/faces"
	"errata/kindof"
	"errata/kinds"
)

const maxPushed = 64

// subject is an error of the book with its handle; the zero one is no error.
type subject struct {
	err    error
	handle int
}

// machine does a program whose ops all may be.
type machine struct {
	book    *book.Book
	code    []api.Op
	x       subject
	flag    bool
	pushed  []subject
	catches []int
	at      int // the op that is being done
	next    int // where it goes on
	told    []api.Out
}

// run does one op after the other: how it ended, and how many were done.
func (m *machine) run() (end, steps int) {
	for m.next < len(m.code) {
		if steps == api.MaxSteps {
			return api.EndSteps, steps
		}
		steps++
		m.at, m.next = m.next, m.next+1
		if p := m.do(m.code[m.at]); p.Sort != api.NoPanic && !m.caught(p) {
			return api.EndPanic, steps
		}
	}
	return api.EndHalt, steps
}

// do does an op: the panic in it, if there was one. All that may panic in an op is asked before anything is changed, so that x, the flag and the rows are left as they were.
func (m *machine) do(op api.Op) (p api.Panic) {
	defer func() {
		if bad := recover(); bad != nil {
			p = panicOf(bad)
		}
	}()
	switch op.Code {
	case api.OpLoad:
		m.x = m.subjectOf(op.H)
	case api.OpKind:
		m.say(toKind(op.What).tells(m.x.err))
	case api.OpFace:
		m.say(m.holds(op.What))
	case api.OpMustKind:
		toKind(op.What).panics(m.x.err)
	case api.OpMustFace:
		m.mustHold(op.What)
	case api.OpCall:
		m.tell(api.Out{Value: called(m.x.err, op.What, m.subjectOf(op.H).err, op.N)})
	case api.OpSame:
		m.say(m.isSame(op.H))
	case api.OpNil:
		m.say(m.x.err == nil)
	case api.OpPart:
		m.x = m.part(op.What, op.N)
	case api.OpPush:
		m.push()
	case api.OpPop:
		m.x = m.pop()
	case api.OpJump:
		m.next = op.N
	case api.OpIf:
		if m.flag {
			m.next = op.N
		}
	case api.OpCatch:
		m.catches = append(m.catches, op.N)
	case api.OpDone:
		m.takeCatch()
	case api.OpSwitch:
		m.next = m.chosen(op)
	case api.OpPanic:
		panic(m.x.givenUp())
	case api.OpHalt:
		m.next = len(m.code)
	}
	return api.Panic{}
}

// panicOf is what is told of what was given up with: the machine itself gives up with what is to be told, an error's method with a Note, the language with errors of its own.
func panicOf(bad any) api.Panic {
	switch bad := bad.(type) {
	case api.Panic:
		return bad
	case kinds.Note:
		return api.Panic{Sort: api.OwnPanic, Word: strings.Clone(string(bad))}
	}
	return api.Panic{Sort: api.RuntimePanic}
}

// caught tells a panic, and goes on at the last catch, if there is one.
func (m *machine) caught(p api.Panic) bool {
	m.tell(api.Out{Panic: p})
	place, ok := m.takeCatch()
	if ok {
		m.next = place
	}
	return ok
}

func (m *machine) takeCatch() (place int, ok bool) {
	last := len(m.catches) - 1
	if last < 0 {
		return 0, false
	}
	place = m.catches[last]
	m.catches = m.catches[:last]
	return place, true
}

func (m *machine) tell(out api.Out) {
	out.At = m.at
	m.told = append(m.told, out)
}

// say sets the flag and tells it.
func (m *machine) say(flag bool) {
	m.flag = flag
	m.tell(api.Out{Flag: flag})
}

func (m *machine) subjectOf(h int) subject {
	err, _ := m.book.Error(h)
	return subject{err: err, handle: h}
}

func (m *machine) holds(face uint8) bool {
	ok, _ := faces.Holds(m.book, m.x.handle, face)
	return ok
}

// mustHold panics where the one-valued assertion to a face does.
func (m *machine) mustHold(face uint8) {
	if p, _ := faces.Assert(m.book, m.x.handle, face); p.Sort != api.NoPanic {
		panic(p)
	}
}

// isSame panics where comparing does.
func (m *machine) isSame(h int) bool {
	outcome, _ := compare.Two(m.book, m.x.handle, h)
	if outcome == api.Panics {
		panic(api.Panic{Sort: api.RuntimePanic})
	}
	return outcome == api.Same
}

// givenUp is what is told where a program gives up with x.
func (x subject) givenUp() api.Panic {
	if x.err == nil {
		return api.Panic{Sort: api.RuntimePanic}
	}
	return api.Panic{Sort: api.OwnPanic, Handle: x.handle}
}

func (m *machine) push() {
	if len(m.pushed) < maxPushed {
		m.pushed = append(m.pushed, m.x)
	}
}

func (m *machine) pop() subject {
	last := len(m.pushed) - 1
	if last < 0 {
		return subject{}
	}
	x := m.pushed[last]
	m.pushed = m.pushed[:last]
	return x
}

// chosen is where a switch goes on.
func (m *machine) chosen(op api.Op) int {
	kind := kindof.Error(m.x.err)
	held, _ := faces.Held(m.book, m.x.handle)
	for _, clause := range op.Cases {
		isIt := clause.Kind == kind // with neither a kind nor a face it asks for no error, whose kind is 0
		if clause.Face != 0 {
			isIt = held>>clause.Face&1 == 1
		}
		if isIt {
			return clause.To
		}
	}
	return op.N
}
