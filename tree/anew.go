package tree

import (
	"slices"

	"errata/api"
	"errata/book"
)

// wholly makes all that do makes, or nothing: whether a Make is refused is found out in a copy.
func wholly(b *book.Book, do func(*book.Book) (int, api.Errno)) (int, api.Errno) {
	if _, e := do(b.Copy()); e != api.OK {
		return 0, e
	}
	return do(b)
}

// anew is an error made anew with other parts.
func anew(b *book.Book, h int, parts []int) (int, api.Errno) {
	s, _ := b.Spec(h)
	if slices.Equal(s.Parts, parts) {
		return h, api.OK
	}
	s.Parts = parts
	return b.Make(s)
}

// replaced is h's error with g at a path, which leads somewhere.
func replaced(b *book.Book, h int, path string, g int) (int, api.Errno) {
	if path == "" {
		return g, api.OK
	}
	parts, _ := b.Parts(h)
	part, e := replaced(b, parts[path[0]], path[1:], g)
	if e != api.OK {
		return 0, e
	}
	parts[path[0]] = part
	return anew(b, h, parts)
}

// cut is h's error without what is deeper.
func cut(b *book.Book, h, depth int) (int, api.Errno) {
	made := map[[2]int]int{} // by handle and level
	var below func(h, level int) (int, api.Errno)
	below = func(h, level int) (int, api.Errno) {
		if !isError(h) || level > depth {
			return 0, api.OK
		}
		if g, ok := made[[2]int{h, level}]; ok {
			return g, api.OK
		}
		parts, _ := b.Parts(h)
		for i, part := range parts {
			g, e := below(part, level+1)
			if e != api.OK {
				return 0, e
			}
			parts[i] = g
		}
		g, e := anew(b, h, parts)
		made[[2]int{h, level}] = g
		return g, e
	}
	return below(h, 1)
}
