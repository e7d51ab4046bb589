package place

import (
	"slices"

	"errata/api"
)

// Tree is stacks that share what they have alike. A node's number is its index; the node 0 is the empty stack.
type Tree struct {
	nodes []node
	found map[step]int
}

type node struct {
	step  step // zero of the node 0
	depth int
}

// step is what leads to a node: no two nodes have the same, so that they are found by it.
type step struct {
	parent int
	place  Place
}

// New makes a tree that has the empty stack alone.
func New() *Tree {
	return &Tree{nodes: []node{{}}, found: map[step]int{}}
}

func (t *Tree) has(n int) bool { return n >= 0 && n < t.Len() }

// Push is the stack with a further place.
func (t *Tree) Push(at int, p Place) (int, api.Errno) {
	if t == nil {
		return 0, api.ErrNil
	}
	if !t.has(at) {
		return 0, api.ErrArg
	}
	if !p.mayBe() {
		return 0, api.ErrPlace
	}
	depth := t.nodes[at].depth
	if depth == MaxPlaces {
		return 0, api.ErrStack
	}
	n, ok := t.found[step{at, p}]
	if ok {
		return n, api.OK
	}
	n = len(t.nodes)
	if n == MaxNodes {
		return 0, api.ErrFull
	}
	s := step{at, p.copied()}
	t.nodes = append(t.nodes, node{step: s, depth: depth + 1})
	t.found[s] = n
	return n, api.OK
}

// Add is a whole stack.
func (t *Tree) Add(l []Place) (int, api.Errno) {
	if t == nil {
		return 0, api.ErrNil
	}
	if e := Check(l); e != api.OK {
		return 0, e
	}
	n := 0
	for _, p := range l {
		next, e := t.Push(n, p)
		if e != api.OK {
			return 0, e
		}
		n = next
	}
	return n, api.OK
}

// Len is how many stacks it has.
func (t *Tree) Len() int {
	if t == nil {
		return 0
	}
	return len(t.nodes)
}

// Parent is the stack without its innermost place.
func (t *Tree) Parent(n int) (int, bool) {
	if n == 0 || !t.has(n) {
		return 0, false
	}
	return t.nodes[n].step.parent, true
}

// Depth is how many places a stack has.
func (t *Tree) Depth(n int) int {
	if !t.has(n) {
		return 0
	}
	return t.nodes[n].depth
}

// Stack is a stack's places.
func (t *Tree) Stack(n int) ([]Place, api.Errno) {
	if t == nil {
		return nil, api.ErrNil
	}
	if !t.has(n) {
		return nil, api.ErrArg
	}
	var l []Place
	for ; n != 0; n = t.nodes[n].step.parent {
		l = append(l, t.nodes[n].step.place.copied())
	}
	slices.Reverse(l)
	return l, api.OK
}

// Meet is the stack that two stacks have alike.
func (t *Tree) Meet(a, b int) (int, api.Errno) {
	if t == nil {
		return 0, api.ErrNil
	}
	if !t.has(a) || !t.has(b) {
		return 0, api.ErrArg
	}
	// A parent's number is the lesser one, so the greater of two unlike nodes is not above the other one.
	for a != b {
		if a < b {
			a, b = b, a
		}
		a = t.nodes[a].step.parent
	}
	return a, api.OK
}
