package book

import (
	"errata/api"
	"errata/kinds"
)

const maxWords = 1048576

// bulk is how great an error is, as a tree; that of no error is zero.
type bulk struct {
	size   int
	depth  int
	length int // of its text
	words  int // bytes of Text and Items
}

// bulkOf is how great an error of a spec becomes, whose parts are in the book.
func (b *Book) bulkOf(s api.Spec) bulk {
	all := bulk{size: 1, words: wordsOf(s)}
	var lengths []int
	for _, h := range s.Parts {
		part, _ := b.find(h)
		all.size += part.size
		all.depth = max(all.depth, part.depth)
		all.words += part.words
		lengths = append(lengths, part.length)
	}
	all.depth++
	all.length = kinds.Long(s, lengths)
	return all
}

func wordsOf(s api.Spec) int {
	n := len(s.Text)
	for _, item := range s.Items {
		n += len(item)
	}
	return n
}

// check says which bound is passed.
func (all bulk) check() api.Errno {
	switch {
	case all.size > api.MaxSize:
		return api.ErrSize
	case all.depth > api.MaxDepth:
		return api.ErrDeep
	case all.length > api.MaxText || all.words > maxWords:
		return api.ErrText
	}
	return api.OK
}
