package value_test

import (
	"math"
	"math/big"
	"math/rand"
	"strings"
	"testing"

	"errata/api"
	"errata/value"
)

func TestP2_4Plus(t *testing.T) {
	for i, x := range []struct{ a, b, sum api.Value }{
		{integer(math.MaxInt64), integer(1), integer(math.MinInt64)},
		{integer(math.MinInt64), integer(-1), integer(math.MaxInt64)},
		{integer(math.MinInt64), integer(math.MinInt64), integer(0)},
		{integer(2), integer(-5), integer(-3)},
		{integer(1), float(0.5), float(1.5)},
		{float(0.5), integer(-2), float(-1.5)},
		{integer(9007199254740993), float(0), float(9007199254740992)},
		{integer(9007199254740995), float(0), float(9007199254740996)},
		{float(0), integer(-9007199254740993), float(-9007199254740992)},
		{integer(math.MaxInt64), pair(0, 1), pair(9223372036854775808, 1)},
		{integer(0), float(minus0), float(0)},
		{float(minus0), float(minus0), float(minus0)},
		{float(0.5), pair(1, 2), pair(1.5, 2)},
		{pair(1, 2), float(0.5), pair(1.5, 2)},
		{pair(1, minus0), float(1), pair(2, 0)},
		{pair(1, minus0), pair(1, minus0), pair(2, minus0)},
		{pair(1, inf), integer(1), pair(2, inf)},
		{pair(nan, 1), integer(1), pair(nan, 1)},
		{pair(inf, 1), pair(minusInf, 2), pair(nan, 3)},
		{float(inf), float(minusInf), float(nan)},
		{float(math.MaxFloat64), float(math.MaxFloat64), float(inf)},
		{float(0.1), float(0.2), float(0.30000000000000004)},
		{words("a"), words("b"), words("ab")},
		{words(""), words(""), words("")},
		{octets("\x00"), octets("\xff"), octets("\x00\xff")},
		{list(integer(1)), list(integer(2), none()), list(integer(1), integer(2), none())},
		{list(), list(), list()},
		{list(list(none())), list(), list(list(none()))},
		{truth(false), truth(false), truth(false)},
		{truth(true), truth(false), truth(true)},
		{truth(false), truth(true), truth(true)},
		{truth(true), truth(true), truth(true)},
	} {
		if sum, e := value.Plus(x.a, x.b); !alike(sum, x.sum) || e != api.OK {
			t.Errorf("%d: Plus(%v, %v): %v, %d", i, x.a, x.b, sum, e)
		}
	}
}

func TestP2_4PlusNone(t *testing.T) {
	for _, v := range someValues() {
		for _, two := range [][2]api.Value{{none(), v}, {v, none()}} {
			if sum, e := value.Plus(two[0], two[1]); !alike(sum, v) || e != api.OK {
				t.Errorf("Plus(%v, %v): %v, %d", two[0], two[1], sum, e)
			}
		}
	}
}

// TestP2_4Rounding holds the sums against exact ones that are rounded once, after each int was rounded by itself.
func TestP2_4Rounding(t *testing.T) {
	draw := rand.New(rand.NewSource(4))
	nearest := func(n int64) float64 {
		x, _ := new(big.Float).SetPrec(53).SetMode(big.ToNearestEven).SetInt64(n).Float64()
		return x
	}
	exact := func(x, y float64) float64 {
		sum, _ := new(big.Float).SetPrec(3000).Add(big.NewFloat(x), big.NewFloat(y)).Float64()
		return sum
	}
	for range 5000 {
		n := int64(draw.Uint64()) >> draw.Intn(64)
		x, y := drawnFloat(draw), drawnFloat(draw)
		if math.IsNaN(x+y) || math.IsInf(x, 0) || math.IsInf(y, 0) || x+y == 0 {
			continue
		}
		for i, of := range []struct{ a, b, sum api.Value }{
			{float(x), float(y), float(exact(x, y))},
			{integer(n), float(x), float(exact(nearest(n), x))},
			{pair(x, y), integer(n), pair(exact(x, nearest(n)), y)},
			{pair(x, y), pair(y, x), pair(exact(x, y), exact(y, x))},
		} {
			if of.sum.Re == 0 || of.sum.Im == 0 && of.sum.Kind == api.ValComplex {
				continue
			}
			if sum, e := value.Plus(of.a, of.b); !alike(sum, of.sum) || e != api.OK {
				t.Fatalf("%d: Plus(%v, %v): %v, %d, not %v", i, of.a, of.b, sum, e, of.sum)
			}
		}
	}
}

// goTogether tells whether two Kinds, neither ValNone, have a sum.
func goTogether(a, b uint8) bool {
	isNumber := func(kind uint8) bool { return kind >= api.ValInt && kind <= api.ValComplex }
	return a == b || isNumber(a) && isNumber(b)
}

func TestP2_4PlusOfAllElse(t *testing.T) {
	one := []api.Value{none(), truth(true), integer(1), float(1), pair(1, 1), words("1"), octets("1"), list(integer(1))}
	for _, a := range one {
		for _, b := range one {
			asked := api.OK
			if a.Kind != api.ValNone && b.Kind != api.ValNone && !goTogether(a.Kind, b.Kind) {
				asked = api.ErrUnlike
			}
			if sum, e := value.Plus(a, b); e != asked || e != api.OK && !alike(sum, none()) {
				t.Errorf("Plus(%v, %v): %v, %d", a, b, sum, e)
			}
		}
	}
}

func TestP2_4PlusAtTheBounds(t *testing.T) {
	half := strings.Repeat("h", api.MaxWord/2)
	for i, x := range []struct {
		a, b api.Value
		e    api.Errno
	}{
		{words(half), words(half), api.OK},
		{words(half + "h"), words(half), api.ErrValue},
		{octets(half), octets(half), api.OK},
		{octets(half), octets(half + "h"), api.ErrValue},
		{many(500, none()), many(523, none()), api.OK},
		{many(500, none()), many(524, none()), api.ErrValue},
		{many(1023, none()), list(), api.OK},
		{nested(16, none()), nested(16, none()), api.OK},
		{doubled(9), list(doubled(9)), api.OK},
		{doubled(10), list(none()), api.OK},
		{doubled(10), list(none(), none()), api.ErrValue},
		{words(half + "h" + half), octets(""), api.ErrValue},
		{octets(""), words(half + "h" + half), api.ErrValue},
		{none(), api.Value{Kind: 8}, api.ErrValue},
		{api.Value{Kind: 8}, none(), api.ErrValue},
		{endless(), endless(), api.ErrValue},
	} {
		sum, e := value.Plus(x.a, x.b)
		if e != x.e || e != api.OK && !alike(sum, none()) || value.Check(sum) != api.OK {
			t.Errorf("%d: %d", i, e)
		}
	}
}

func TestP2_4SumsAreNewMemory(t *testing.T) {
	room := []api.Value{list(integer(1)), list(integer(1)), integer(99)}
	a := list(room[:2]...)
	for _, two := range [][2]api.Value{{a, a}, {a, none()}, {none(), a}, {a, list()}} {
		sum, _ := value.Plus(two[0], two[1])
		for i := range sum.List {
			sum.List[i].List = append(sum.List[i].List[:0], words("#"))
		}
		sum.List = sum.List[:cap(sum.List)]
		clear(sum.List)
		if !alike(list(room...), list(list(integer(1)), list(integer(1)), integer(99))) {
			t.Fatalf("%v", room)
		}
	}
	sum, _ := value.Plus(list(a), list(a, a))
	sum.List[0].List[0].List[0] = words("#")
	sum.List[1].List = append(sum.List[1].List, words("#"))
	if !alike(sum.List[2], a) || !alike(sum.List[0].List[1], list(integer(1))) || len(sum.List) != 3 {
		t.Errorf("%v", sum)
	}
}

// TestP2_7PlusOfThree: (a and b) and c is a and (b and c).
func TestP2_7PlusOfThree(t *testing.T) {
	var of [8][]api.Value
	for _, v := range someValues() {
		if v.Kind == api.ValInt || v.Kind >= api.ValText && len(of[v.Kind]) < 24 {
			of[v.Kind] = append(of[v.Kind], v)
		}
	}
	for _, kind := range []uint8{api.ValInt, api.ValText, api.ValBytes, api.ValList} {
		all := of[kind]
		if len(all) < 14 {
			t.Fatal("too few of Kind", kind)
		}
		for _, a := range all[:14] {
			for _, b := range all {
				for _, c := range all {
					left, e1 := value.Plus(a, b)
					right, e2 := value.Plus(b, c)
					l, e3 := value.Plus(left, c)
					r, e4 := value.Plus(a, right)
					if e1|e2|e3|e4 == api.OK && !alike(l, r) {
						t.Fatalf("%v, %v, %v", a, b, c)
					}
				}
			}
		}
	}
}
