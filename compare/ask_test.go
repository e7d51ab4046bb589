package compare_test

import (
	"math/rand"
	"slices"
	"testing"

	"errata/api"
	"errata/book"
	"errata/compare"
)

func sayTwo(t *testing.T, b *book.Book, x, y, want int, wrong api.Errno) {
	t.Helper()
	if outcome, e := compare.Two(b, x, y); outcome != want || e != wrong {
		t.Errorf("Two(%d, %d): %d %d, not %d %d", x, y, outcome, e, want, wrong)
	}
}

func sayFour(t *testing.T, b *book.Book, x, y [4]int, want int, wrong api.Errno) {
	t.Helper()
	if outcome, e := compare.Four(b, x, y); outcome != want || e != wrong {
		t.Errorf("Four(%v, %v): %d %d, not %d %d", x, y, outcome, e, want, wrong)
	}
}

func sayRows(t *testing.T, b *book.Book, x, y []int, want int, wrong api.Errno) {
	t.Helper()
	if outcome, e := compare.Rows(b, x, y); outcome != want || e != wrong {
		t.Errorf("Rows(%v, %v): %d %d, not %d %d", x, y, outcome, e, want, wrong)
	}
}

func saySeek(t *testing.T, b *book.Book, x int, row []int, at, want int, wrong api.Errno) {
	t.Helper()
	if found, outcome, e := compare.Seek(b, x, row); found != at || outcome != want || e != wrong {
		t.Errorf("Seek(%d, %v): %d %d %d, not %d %d %d", x, row, found, outcome, e, at, want, wrong)
	}
}

func sayByType(t *testing.T, b *book.Book, h int, want bool, wrong api.Errno) {
	t.Helper()
	if ok, e := compare.ByType(b, h); ok != want || e != wrong {
		t.Errorf("ByType(%d): %t %d, not %t %d", h, ok, e, want, wrong)
	}
}

func sayNothing(t *testing.T, b *book.Book, h int, none, typed bool, wrong api.Errno) {
	t.Helper()
	if gone, empty, e := compare.Nothing(b, h); gone != none || empty != typed || e != wrong {
		t.Errorf("Nothing(%d): %t %t %d, not %t %t %d", h, gone, empty, e, none, typed, wrong)
	}
}

func TestP7_1Examples(t *testing.T) {
	b := example(t)
	sayTwo(t, b, 1, 2, api.Same, api.OK)
	sayTwo(t, b, 3, 3, api.Unlike, api.OK)
	sayTwo(t, b, 4, 4, api.Panics, api.OK)
	sayTwo(t, b, 4, 1, api.Unlike, api.OK)
	sayTwo(t, b, 11, 12, api.Same, api.OK)
	sayTwo(t, b, 5, 6, api.Unlike, api.OK)
	sayTwo(t, b, 5, 5, api.Panics, api.OK)
	sayTwo(t, b, 7, 8, api.Unlike, api.OK)
	sayTwo(t, b, 7, 7, api.Same, api.OK)
	sayTwo(t, b, 0, 9, api.Unlike, api.OK)
	sayTwo(t, b, 0, 0, api.Same, api.OK)
	sayTwo(t, b, 13, 14, api.Panics, api.OK)
	sayTwo(t, b, 10, 10, api.Panics, api.OK)
	sayTwo(t, b, 99, 0, 0, api.ErrHandle)
	sayFour(t, b, [4]int{1, 4, 4, 4}, [4]int{3, 4, 4, 4}, api.Unlike, api.OK)
	sayFour(t, b, [4]int{1, 4, 0, 0}, [4]int{2, 4, 0, 0}, api.Panics, api.OK)
}

// TestP7_1Kinds compares each of many errors of all kinds with each other one.
func TestP7_1Kinds(t *testing.T) {
	b := allKinds(t)
	told := map[int]int{}
	for x := range b.Len() + 1 {
		for y := range b.Len() + 1 {
			want := compared(t, b, x, y)
			sayTwo(t, b, x, y, want, api.OK)
			told[want]++
		}
		if t.Failed() {
			return
		}
	}
	if told[api.Same] < 300 || told[api.Unlike] < 300 || told[api.Panics] < 300 {
		t.Error("how often each answer was told:", told)
	}
}

// TestP7_1Order: fields are compared in the order of their declaration, and what stands behind the first unlike one is not.
func TestP7_1Order(t *testing.T) {
	b := book.New()
	bag := give(t, b, api.Spec{Kind: api.KindBag})
	about := func(s api.Spec) int { return giveAbout(t, b, s, bag) }
	a, c := about(api.Spec{Kind: api.KindOver, Text: "aa"}), about(api.Spec{Kind: api.KindOver, Text: "ac"})
	sayTwo(t, b, a, c, api.Unlike, api.OK)
	sayTwo(t, b, a, a, api.Panics, api.OK)
	short, long := about(api.Spec{Kind: api.KindTimed}), about(api.Spec{Kind: api.KindTimed, Flag: true})
	sayTwo(t, b, short, long, api.Panics, api.OK)
	bare := give(t, b, api.Spec{Kind: api.KindTimed, Flag: true})
	sayTwo(t, b, short, bare, api.Unlike, api.OK)
	veiled := giveAbout(t, b, api.Spec{Kind: api.KindVeil}, short)
	sayTwo(t, b, veiled, giveAbout(t, b, api.Spec{Kind: api.KindVeil}, long), api.Panics, api.OK)
	sayTwo(t, b, veiled, giveAbout(t, b, api.Spec{Kind: api.KindVeil}, a), api.Unlike, api.OK)
}

// TestP7_1Pointers: what is hidden by a pointer is not compared.
func TestP7_1Pointers(t *testing.T) {
	b := book.New()
	bag := give(t, b, api.Spec{Kind: api.KindBag})
	for _, kind := range []uint8{api.KindWrap, api.KindJoin, api.KindOpaque} {
		s := api.Spec{Kind: kind, Parts: []int{bag}}
		if kind == api.KindOpaque {
			s.Items = []string{"n"}
		}
		one, other := give(t, b, s), give(t, b, s)
		sayTwo(t, b, one, one, api.Same, api.OK)
		sayTwo(t, b, one, other, api.Unlike, api.OK)
	}
	plain, nothing := give(t, b, api.Spec{Kind: api.KindPlain}), give(t, b, api.Spec{Kind: api.KindPlain, Nil: true})
	placed := func(part int) int { return giveAbout(t, b, api.Spec{Kind: api.KindPlaced}, part) }
	sayTwo(t, b, placed(plain), placed(plain), api.Same, api.OK)
	sayTwo(t, b, placed(nothing), placed(0), api.Same, api.OK)
	sayTwo(t, b, placed(plain), placed(0), api.Unlike, api.OK)
	sayTwo(t, b, placed(0), give(t, b, api.Spec{Kind: api.KindPlaced}), api.Same, api.OK)
}

// TestP7_1Deep: what panics at the bottom does so, however deep it is.
func TestP7_1Deep(t *testing.T) {
	for _, s := range []api.Spec{{Kind: api.KindBag}, {Kind: api.KindCode}, leaves()[8]} {
		b := book.New()
		one, other := give(t, b, s), give(t, b, s)
		for depth := 2; depth <= api.MaxDepth; depth++ {
			about := abouts()[depth%7]
			one, other = giveAbout(t, b, about, one), giveAbout(t, b, about, other)
		}
		want := compared(t, b, 1, 2)
		sayTwo(t, b, one, other, want, api.OK)
		sayTwo(t, b, one, one, want, api.OK)
		sayTwo(t, b, one, 1, api.Unlike, api.OK)
	}
}

func TestP7_1Four(t *testing.T) {
	b := example(t)
	sayFour(t, b, [4]int{}, [4]int{}, api.Same, api.OK)
	sayFour(t, b, [4]int{1, 7, 11, 0}, [4]int{2, 7, 12, 0}, api.Same, api.OK)
	sayFour(t, b, [4]int{0, 0, 0, 3}, [4]int{0, 0, 0, 3}, api.Unlike, api.OK)
	sayFour(t, b, [4]int{0, 0, 0, 4}, [4]int{0, 0, 0, 4}, api.Panics, api.OK)
	sayFour(t, b, [4]int{4, 1, 0, 0}, [4]int{4, 7, 0, 0}, api.Panics, api.OK)
	sayFour(t, b, [4]int{7, 4, 0, 0}, [4]int{8, 4, 0, 0}, api.Unlike, api.OK)
}

func TestP7_1FourDrawn(t *testing.T) {
	draw := rand.New(rand.NewSource(71))
	b := allKinds(t)
	for range 20000 {
		row := drawnRow(draw, b, 8)
		x, y := [4]int(row[:4]), [4]int(row[4:])
		if draw.Intn(2) == 0 {
			copy(y[:], x[:draw.Intn(5)])
		}
		sayFour(t, b, x, y, comparedRows(t, b, x[:], y[:]), api.OK)
	}
}

func TestP7_2Examples(t *testing.T) {
	b := example(t)
	sayRows(t, b, []int{1}, []int{1, 2}, api.Unlike, api.OK)
	saySeek(t, b, 1, []int{3, 7, 2, 4}, 2, api.Same, api.OK)
	saySeek(t, b, 4, []int{1, 4}, 1, api.Panics, api.OK)
	saySeek(t, b, 3, []int{3}, -1, api.Unlike, api.OK)
}

func TestP7_2Rows(t *testing.T) {
	b := example(t)
	sayRows(t, b, nil, nil, api.Same, api.OK)
	sayRows(t, b, nil, []int{}, api.Same, api.OK)
	sayRows(t, b, nil, []int{0}, api.Unlike, api.OK)
	sayRows(t, b, []int{4}, []int{4, 4}, api.Unlike, api.OK) // nothing is compared, and so nothing panics
	sayRows(t, b, []int{4, 1}, []int{4, 7}, api.Panics, api.OK)
	sayRows(t, b, []int{1, 4}, []int{7, 4}, api.Unlike, api.OK)
	many := slices.Repeat([]int{1, 11, 7, 0}, 20000)
	same := slices.Repeat([]int{2, 12, 7, 0}, 20000)
	sayRows(t, b, many, same, api.Same, api.OK)
	sayRows(t, b, append(many, 4), append(same, 4), api.Panics, api.OK)
	sayRows(t, b, append(many, 3, 4), append(same, 3, 4), api.Unlike, api.OK)
}

func TestP7_2RowsDrawn(t *testing.T) {
	draw := rand.New(rand.NewSource(72))
	b := allKinds(t)
	for range 20000 {
		x, y := drawnRow(draw, b, draw.Intn(7)), drawnRow(draw, b, draw.Intn(7))
		if draw.Intn(4) > 0 {
			y = slices.Clone(x)
			if len(y) > 0 && draw.Intn(2) == 0 {
				y[draw.Intn(len(y))] = draw.Intn(b.Len() + 1)
			}
		}
		sayRows(t, b, x, y, comparedRows(t, b, x, y), api.OK)
	}
}

func TestP7_2Seek(t *testing.T) {
	b := example(t)
	saySeek(t, b, 0, nil, -1, api.Unlike, api.OK)
	saySeek(t, b, 0, []int{1, 9, 0, 0}, 2, api.Same, api.OK)
	saySeek(t, b, 1, []int{2, 1}, 0, api.Same, api.OK)
	saySeek(t, b, 5, []int{6, 4, 5, 0}, 2, api.Panics, api.OK)
	saySeek(t, b, 13, []int{1, 14}, 1, api.Panics, api.OK)
	saySeek(t, b, 1, slices.Repeat([]int{4, 3, 7}, 30000), -1, api.Unlike, api.OK)
}

func TestP7_2SeekDrawn(t *testing.T) {
	draw := rand.New(rand.NewSource(73))
	b := allKinds(t)
	found := map[int]int{}
	for range 5000 {
		row := drawnRow(draw, b, draw.Intn(12))
		x := draw.Intn(b.Len() + 1)
		if len(row) > 0 && draw.Intn(2) == 0 {
			x = row[len(row)-1]
		}
		at, want := -1, api.Unlike
		for i, h := range row {
			if outcome := compared(t, b, x, h); outcome != api.Unlike {
				at, want = i, outcome
				break
			}
		}
		saySeek(t, b, x, row, at, want, api.OK)
		found[want]++
	}
	if len(found) != 3 {
		t.Error("what was found:", found)
	}
}

func TestP7_3Examples(t *testing.T) {
	b := example(t)
	sayByType(t, b, 4, false, api.OK)
	sayByType(t, b, 5, true, api.OK)
	sayByType(t, b, 0, true, api.OK)
	sayNothing(t, b, 9, false, true, api.OK)
	sayNothing(t, b, 0, true, false, api.OK)
}

func TestP7_3Kinds(t *testing.T) {
	b := allKinds(t)
	types, nothings := 0, 0
	for h := 1; h <= b.Len(); h++ {
		ok, typed := hasType(t, b, h), specOf(t, b, h).Nil
		sayByType(t, b, h, ok, api.OK)
		sayNothing(t, b, h, false, typed, api.OK)
		if !ok {
			types++
		}
		if typed {
			nothings++
		}
	}
	if types < 10 || nothings < 10 {
		t.Error("so few can't be compared, or are nothings:", types, nothings)
	}
}

// TestP7_3AboutNothing: what holds a typed nil, and what is empty, is none itself.
func TestP7_3AboutNothing(t *testing.T) {
	b := book.New()
	plain, wrap := give(t, b, api.Spec{Kind: 9, Nil: true}), give(t, b, api.Spec{Kind: 14, Nil: true})
	for _, s := range abouts() {
		for _, part := range []int{plain, wrap, 0} {
			sayNothing(t, b, giveAbout(t, b, s, part), false, false, api.OK)
		}
	}
	sayNothing(t, b, giveAbout(t, b, api.Spec{Kind: 18}, plain), false, false, api.OK)
	sayNothing(t, b, giveAbout(t, b, api.Spec{Kind: 25}, wrap), false, false, api.OK)
	for _, s := range []api.Spec{{Kind: 6}, {Kind: 12}, {Kind: 16}, {Kind: 23, Number: 3}} {
		sayNothing(t, b, give(t, b, s), false, false, api.OK)
	}
}
