package probe

import (
	"errata/api"
	"errata/kinds"
)

// part is the n-th of what Unwrap tells of x; no error, if there is none.
func (m *machine) part(face uint8, n int) subject {
	told := unwrapped(m.x.err, face)
	if n < 0 || n >= len(told) || told[n] == nil {
		return subject{}
	}
	return subject{err: told[n], handle: m.walked()[n]}
}

// unwrapped is what the Unwrap of a face tells; of a face that has none, whichever of the two x has.
func unwrapped(x any, face uint8) []error {
	isMany := face == api.FaceMany
	if face != api.FaceOne && !isMany {
		_, isMany = x.(api.Many)
	}
	if isMany {
		return x.(api.Many).Unwrap()
	}
	return []error{x.(api.One).Unwrap()}
}

// walked are the handles of the parts that the Unwrap of x tells; they come from the book, because errors that are alike may stand under many handles.
func (m *machine) walked() []int {
	parts, _ := m.book.Parts(m.x.handle)
	if _, ok := m.x.err.(kinds.Full); ok {
		parts, _ = m.book.Parts(parts[0]) // a Full has its Wrap's Unwrap
	}
	return parts
}
