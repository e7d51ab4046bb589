package grasp

import (
	"errata/api"
	"errata/book"
)

// within are all errors within h's, in their order.
func within(b *book.Book, h int) ([]error, api.Errno) {
	nodes, e := Nodes(b, h)
	if e != api.OK {
		return nil, e
	}
	errs := make([]error, len(nodes))
	for i, node := range nodes {
		errs[i], _ = b.Error(node)
	}
	return errs, api.OK
}

// withNodes is a row with the handles of all within h's error behind it; no error adds none.
func withNodes(row []int, b *book.Book, h int) []int {
	if h == 0 {
		return row
	}
	row = append(row, h)
	for _, part := range walked(b, h) {
		row = withNodes(row, b, part)
	}
	return row
}

// walked are the parts that are walked; a 0 among them is no error. They are told by the Specs, so that no Unwrap is called, which of a nil one would panic.
func walked(b *book.Book, h int) []int {
	kind, _ := b.Kind(h)
	parts, _ := b.Parts(h)
	switch kind {
	case api.KindWrap, api.KindOver, api.KindJoin, api.KindOpaque:
		return parts
	case api.KindFull:
		if len(parts) == 1 {
			return walked(b, parts[0]) // a Full has its Wrap's Unwrap
		}
	}
	return nil
}
