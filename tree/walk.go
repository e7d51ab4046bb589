package tree

import (
	"iter"

	"errata/book"
)

// walk goes through the nodes of a handle that the book has. It may look at the book as late as it is gone over: what is in a book never changes.
func walk(b *book.Book, h int) iter.Seq2[string, int] {
	return func(yield func(string, int) bool) {
		var onward func(path string, h int) bool
		onward = func(path string, h int) bool {
			if !isError(h) {
				return true
			}
			if !yield(path, h) {
				return false
			}
			parts, _ := b.Parts(h)
			for i, part := range parts {
				if !onward(path+string([]byte{byte(i)}), part) {
					return false
				}
			}
			return true
		}
		onward("", h)
	}
}

func isError(h int) bool { return h != 0 }
