package place

import "errata/api"

// Told is the tree as bytes.
func (t *Tree) Told() string {
	if t.Len() == 0 {
		return ""
	}
	out := appendShort(nil, len(t.nodes)-1)
	for n := 1; n < len(t.nodes); n++ {
		s := t.nodes[n].step
		out = appendShort(out, n-s.parent)
		out = appendShort(out, len(s.place.Name))
		out = append(out, s.place.Name...)
		out = appendShort(out, s.place.Line)
	}
	return string(out)
}

// appendShort appends a number, 0 or more, as a short one.
func appendShort(out []byte, n int) []byte {
	for ; n > 127; n >>= 7 {
		out = append(out, byte(n&127)|128)
	}
	return append(out, byte(n))
}

// From is the tree that bytes are.
func From(s string) (*Tree, api.Errno) {
	count, s, ok := cutShort(s)
	if !ok || count >= MaxNodes {
		return nil, api.ErrForm
	}
	t := New()
	for range count {
		s, ok = t.readNode(s)
		if !ok {
			return nil, api.ErrForm
		}
	}
	if s != "" {
		return nil, api.ErrForm
	}
	return t, api.OK
}

// readNode makes the node with which s begins, and tells what is behind it; false, if there is none, or it is no new one.
func (t *Tree) readNode(s string) (string, bool) {
	back, s, ok := cutShort(s)
	if !ok {
		return "", false
	}
	size, s, ok := cutShort(s)
	if !ok || size > len(s) {
		return "", false
	}
	name, s := s[:size], s[size:]
	line, s, ok := cutShort(s)
	if !ok {
		return "", false
	}
	next := t.Len()
	n, e := t.Push(next-back, Place{Name: name, Line: line})
	return s, e == api.OK && n == next
}

// shortBytes is how many bytes the greatest number of a tree, a line, has as a short one.
const shortBytes = 3

// cutShort is the short number with which s begins, and what is behind it; false, if there is none, or it is longer than a tree's numbers are.
func cutShort(s string) (n int, rest string, ok bool) {
	for i := range min(len(s), shortBytes) {
		b := int(s[i])
		n |= (b & 127) << (7 * i)
		if b < 128 {
			longer := b == 0 && i > 0 // a byte fewer would do
			return n, s[i+1:], !longer
		}
	}
	return 0, "", false
}
