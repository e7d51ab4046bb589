package tree

import (
	"slices"
	"strconv"
	"strings"

	"errata/api"
	"errata/book"
)

// folded is what f answers of the last one of the nodes, which are rising, so that parts stand ahead of what is made of them.
func folded[T any](b *book.Book, nodes []int, f func(h int, s api.Spec, parts []T) T) T {
	answers := make([]T, len(nodes))
	for i, node := range nodes {
		s, _ := b.Spec(node)
		parts := make([]T, len(s.Parts))
		for j, part := range s.Parts {
			if at, ok := slices.BinarySearch(nodes, part); ok { // no error is none of the nodes
				parts[j] = answers[at]
			}
		}
		answers[i] = f(node, s, parts)
	}
	return answers[len(nodes)-1]
}

// shapeOf is the shape of an error, whose parts' shapes are empty where they are no error.
func shapeOf(s api.Spec, parts []string) string {
	shape := strconv.Itoa(int(s.Kind))
	if s.Nil {
		shape += "n"
	}
	if len(parts) == 0 {
		return shape
	}
	for i, part := range parts {
		parts[i] = orNone(part)
	}
	return shape + "(" + strings.Join(parts, ",") + ")"
}

func orNone(shape string) string {
	if shape == "" {
		return "."
	}
	return shape
}
