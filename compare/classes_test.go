package compare_test

import (
	"math/rand"
	"slices"
	"testing"

	"errata/api"
	"errata/book"
	"errata/compare"
)

func sayClasses(t *testing.T, b *book.Book, row []int, same [][]int, out []int, wrong api.Errno) {
	t.Helper()
	groups, others, e := compare.Classes(b, row)
	if !slices.EqualFunc(groups, same, slices.Equal[[]int]) || !slices.Equal(others, out) || e != wrong {
		t.Errorf("Classes(%v): %v %v %d, not %v %v %d", row, groups, others, e, same, out, wrong)
	}
}

// classes are the chapter's, by a row that is gone through for each handle.
func classes(t *testing.T, b *book.Book, row []int) (same [][]int, out []int) {
	t.Helper()
	for _, h := range row {
		if !isKey(t, b, h) || compared(t, b, h, h) != api.Same {
			out = append(out, h)
			continue
		}
		at := slices.IndexFunc(same, func(group []int) bool { return compared(t, b, group[0], h) == api.Same })
		if at < 0 {
			at = len(same)
			same = append(same, nil)
		}
		same[at] = append(same[at], h)
	}
	return same, out
}

func TestP7_4Examples(t *testing.T) {
	b := example(t)
	sayClasses(t, b, []int{2, 4, 7, 1, 3, 0, 5, 7}, [][]int{{2, 1}, {7, 7}, {0}}, []int{4, 3, 5}, api.OK)
}

func TestP7_4Edges(t *testing.T) {
	b := example(t)
	sayClasses(t, b, nil, nil, nil, api.OK)
	sayClasses(t, b, []int{0, 0}, [][]int{{0, 0}}, nil, api.OK)
	sayClasses(t, b, []int{3, 3, 4, 3}, nil, []int{3, 3, 4, 3}, api.OK)
	sayClasses(t, b, []int{12, 0, 11, 12}, [][]int{{12, 11, 12}, {0}}, nil, api.OK)
	sayClasses(t, b, []int{13, 10, 14, 8, 7, 9}, [][]int{{8}, {7}, {9}}, []int{13, 10, 14}, api.OK)
	many := slices.Repeat([]int{1, 2, 3}, 30000)
	sayClasses(t, b, many, [][]int{slices.Repeat([]int{1, 2}, 30000)}, slices.Repeat([]int{3}, 30000), api.OK)
}

func TestP7_4Drawn(t *testing.T) {
	draw := rand.New(rand.NewSource(74))
	b := allKinds(t)
	for range 1000 {
		row := drawnRow(draw, b, draw.Intn(30))
		same, out := classes(t, b, row)
		sayClasses(t, b, row, same, out, api.OK)
	}
}

// TestP7_4All: of a whole book each handle comes into one group, or out.
func TestP7_4All(t *testing.T) {
	b := allKinds(t)
	var row []int
	for h := range b.Len() + 1 {
		row = append(row, h)
	}
	same, out := classes(t, b, row)
	sayClasses(t, b, row, same, out, api.OK)
	for range 5 { // a map is gone through in another order each time; the answer is not
		sayClasses(t, b, row, same, out, api.OK)
	}
}

// TestR3Classes: no two lists of the answer share memory, nor does one with the row.
func TestR3Classes(t *testing.T) {
	b := example(t)
	row := []int{1, 7, 4, 2, 7, 3, 77, 78}
	same, out, e := compare.Classes(b, row[:6])
	if e != api.OK || !slices.Equal(row, []int{1, 7, 4, 2, 7, 3, 77, 78}) {
		t.Error("what was handed in is now", row, e)
	}
	lists := append(slices.Clone(same), out, row)
	for i, list := range lists {
		whole := list[:cap(list)]
		for j := range whole {
			whole[j] = -1 - i
		}
	}
	for i, list := range lists {
		for _, h := range list[:cap(list)] {
			if h != -1-i {
				t.Errorf("the list %d shares memory: %v", i, list)
			}
		}
	}
	sayClasses(t, b, []int{1, 7, 4, 2, 7, 3}, [][]int{{1, 2}, {7, 7}}, []int{4, 3}, api.OK)
}
