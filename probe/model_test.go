package probe_test

import (
	"errata/api"
	"errata/book"
)

// model is the chapter's machine, written down a second time; who it asks is the language.
type model struct {
	b       *book.Book
	code    []api.Op
	x       error
	h       int
	flag    bool
	pushed  []int
	catches []int
	place   int
	outs    []api.Out
}

// played is what the chapter says that a program whose ops may be does.
func played(b *book.Book, code []api.Op) (outs []api.Out, end, steps int) {
	m := &model{b: b, code: code}
	for {
		if m.place == len(code) {
			return m.outs, api.EndHalt, steps
		}
		if steps == 10000 {
			return m.outs, api.EndSteps, steps
		}
		op, at := code[m.place], m.place
		steps++
		m.place++
		if op.Code == api.OpHalt {
			return m.outs, api.EndHalt, steps
		}
		out, tells := m.step(op)
		out.At = at
		if tells || out.Panic != noPanic {
			m.outs = append(m.outs, out)
		}
		if out.Panic == noPanic {
			continue
		}
		if len(m.catches) == 0 {
			return m.outs, api.EndPanic, steps
		}
		m.place = m.catches[len(m.catches)-1]
		m.catches = m.catches[:len(m.catches)-1]
	}
}

// load has x be the error of h.
func (m *model) load(h int) {
	m.x, _ = m.b.Error(h)
	m.h = h
}

// set has the flag be what an op tells.
func (m *model) set(flag bool) (api.Out, bool) {
	m.flag = flag
	return api.Out{Flag: flag}, true
}

// step is one op: what it tells, if it does.
func (m *model) step(op api.Op) (api.Out, bool) {
	switch op.Code {
	case api.OpKind:
		return m.set(isOfKind(m.x, op.What))
	case api.OpFace:
		return m.set(holdsFace(m.x, op.What))
	case api.OpNil:
		return m.set(m.x == nil)
	case api.OpMustKind:
		return api.Out{Panic: caught(func() { mustKind(m.x, op.What) })}, false
	case api.OpMustFace:
		return api.Out{Panic: caught(func() { faceTypes[op.What-1].one(m.x) })}, false
	case api.OpCall:
		target, _ := m.b.Error(op.H)
		v, p := said(m.x, op.What, target, op.N)
		return api.Out{Value: v, Panic: p}, true
	case api.OpSame:
		return m.same(op.H)
	case api.OpPart:
		return api.Out{Panic: m.part(op)}, false
	case api.OpPanic:
		if m.h == 0 {
			return api.Out{Panic: atRuntime}, false
		}
		return api.Out{Panic: ownOf(m.h)}, false
	}
	m.move(op)
	return api.Out{}, false
}

func (m *model) same(h int) (api.Out, bool) {
	other, _ := m.b.Error(h)
	same := false
	if p := caught(func() { same = m.x == other }); p != noPanic {
		return api.Out{Panic: p}, false
	}
	return m.set(same)
}

// part goes to a part by the specs; the language is asked only whether that panics.
func (m *model) part(op api.Op) api.Panic {
	face := op.What
	if face != api.FaceOne && face != api.FaceMany {
		face = api.FaceOne
		if holdsFace(m.x, api.FaceMany) {
			face = api.FaceMany
		}
	}
	if _, p := said(m.x, face, nil, 0); p != noPanic {
		return p
	}
	s, _ := m.b.Spec(m.h)
	if s.Kind == api.KindFull {
		s, _ = m.b.Spec(s.Parts[0])
	}
	if op.N < 0 || op.N >= len(s.Parts) {
		m.load(0)
		return noPanic
	}
	m.load(s.Parts[op.N])
	return noPanic
}

// move is an op that neither tells nor panics.
func (m *model) move(op api.Op) {
	switch op.Code {
	case api.OpLoad:
		m.load(op.H)
	case api.OpPush:
		if len(m.pushed) != 64 {
			m.pushed = append(m.pushed, m.h)
		}
	case api.OpPop:
		h := 0
		if n := len(m.pushed); n > 0 {
			h, m.pushed = m.pushed[n-1], m.pushed[:n-1]
		}
		m.load(h)
	case api.OpJump:
		m.place = op.N
	case api.OpIf:
		if m.flag {
			m.place = op.N
		}
	case api.OpCatch:
		m.catches = append(m.catches, op.N)
	case api.OpDone:
		if n := len(m.catches); n > 0 {
			m.catches = m.catches[:n-1]
		}
	case api.OpSwitch:
		m.place = m.chosen(op)
	}
}

func (m *model) chosen(op api.Op) int {
	for _, c := range op.Cases {
		if c.Kind != 0 && isOfKind(m.x, c.Kind) || c.Face != 0 && holdsFace(m.x, c.Face) || c.Kind == 0 && c.Face == 0 && m.x == nil {
			return c.To
		}
	}
	return op.N
}
