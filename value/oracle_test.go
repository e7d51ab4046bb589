package value_test

import (
	"math"
	"math/rand"
	"strings"

	"errata/api"
)

// Values as the chapter writes them.

func none() api.Value               { return api.Value{} }
func integer(n int64) api.Value     { return api.Value{Kind: api.ValInt, Int: n} }
func float(x float64) api.Value     { return api.Value{Kind: api.ValFloat, Re: x} }
func words(s string) api.Value      { return api.Value{Kind: api.ValText, Text: s} }
func octets(s string) api.Value     { return api.Value{Kind: api.ValBytes, Text: s} }
func pair(re, im float64) api.Value { return api.Value{Kind: api.ValComplex, Re: re, Im: im} }

func truth(b bool) api.Value {
	if b {
		return api.Value{Kind: api.ValBool, Int: 1}
	}
	return api.Value{Kind: api.ValBool}
}

func list(items ...api.Value) api.Value { return api.Value{Kind: api.ValList, List: items} }

// nested are so many lists within one another about v.
func nested(deep int, v api.Value) api.Value {
	for range deep {
		v = list(v)
	}
	return v
}

// many is a list of n values v.
func many(n int, v api.Value) api.Value {
	items := make([]api.Value, n)
	for i := range items {
		items[i] = v
	}
	return list(items...)
}

var (
	nan      = math.NaN()
	minusNaN = math.Float64frombits(0xFFF8000000000000)
	oddNaN   = math.Float64frombits(0x7FF0000000000001)
	minus0   = math.Copysign(0, -1)
	inf      = math.Inf(1)
	minusInf = math.Inf(-1)
)

// ladder has a rung for all values that are alike (there are several NaN), and the rungs in the order of the chapter.
func ladder() [][]api.Value {
	rungs := [][]api.Value{
		{none(), {List: []api.Value{}}}, {truth(false)}, {truth(true)},
		{integer(math.MinInt64)}, {integer(-1 << 53)}, {integer(-256)}, {integer(-1)}, {integer(0)}, {integer(1)}, {integer(258)},
		{integer(1<<53 + 1)}, {integer(math.MaxInt64 - 1)}, {integer(math.MaxInt64)},
		{float(nan), float(minusNaN), float(oddNaN)}, {float(minusInf)}, {float(-math.MaxFloat64)}, {float(-1.5)}, {float(-1)},
		{float(-math.SmallestNonzeroFloat64)}, {float(minus0)}, {float(0)}, {float(math.SmallestNonzeroFloat64)}, {float(0.1)}, {float(1)},
		{float(1 << 53)}, {float(math.MaxFloat64)}, {float(inf)},
		{pair(nan, nan), pair(minusNaN, oddNaN)}, {pair(nan, minusInf), pair(oddNaN, minusInf)}, {pair(nan, minus0)}, {pair(nan, 0)}, {pair(nan, 5)},
		{pair(minusInf, nan), pair(minusInf, minusNaN)}, {pair(minusInf, 9)}, {pair(-1, 7)}, {pair(minus0, nan)}, {pair(minus0, 3)},
		{pair(0, minusInf)}, {pair(0, minus0)}, {pair(0, 0)}, {pair(0, 1)}, {pair(1, -1)}, {pair(1, 2)}, {pair(inf, nan)}, {pair(inf, inf)},
	}
	for _, of := range []func(string) api.Value{words, octets} {
		for _, s := range []string{"", "\x00", "\x00\xff", "A", "a", "a\x00", "aa", "ab", "b", "\x7f", "\xc3", "é", "\xff", "\xff\xff"} {
			rungs = append(rungs, []api.Value{of(s)})
		}
	}
	return append(rungs,
		[]api.Value{list(), {Kind: api.ValList, List: []api.Value{}}},
		[]api.Value{list(none())}, []api.Value{list(none(), none())}, []api.Value{list(none(), truth(true))},
		[]api.Value{list(truth(false), none())}, []api.Value{list(integer(1))}, []api.Value{list(integer(1), integer(2))},
		[]api.Value{list(integer(1), integer(2), none())}, []api.Value{list(integer(1), integer(3))}, []api.Value{list(integer(2))},
		[]api.Value{list(float(nan)), list(float(minusNaN))}, []api.Value{list(float(nan), float(1)), list(float(oddNaN), float(1))},
		[]api.Value{list(float(minus0), float(9))}, []api.Value{list(float(0))},
		[]api.Value{list(pair(minus0, 0), none())}, []api.Value{list(pair(0, 0))},
		[]api.Value{list(words("a, b]"))}, []api.Value{list(octets("\x00\xff"), words("\"[\""))},
		[]api.Value{list(list())}, []api.Value{list(list(), none())}, []api.Value{list(list(), list())}, []api.Value{list(list(none()))},
		[]api.Value{list(list(integer(7), list(words("x"))), float(0.5))}, []api.Value{list(list(list()))}, []api.Value{nested(api.MaxNest, integer(5))},
	)
}

// someValues are all of the ladder, the longest and the widest that may be, and some that were drawn.
func someValues() []api.Value {
	var all []api.Value
	for _, rung := range ladder() {
		all = append(all, rung...)
	}
	all = append(all,
		words(strings.Repeat("w", api.MaxWord)), words(strings.Repeat("\xff", api.MaxWord)), octets(strings.Repeat("\x00", api.MaxWord)),
		many(api.MaxTree-1, none()), many(api.MaxTree-1, list()), nested(api.MaxNest-1, many(api.MaxTree-api.MaxNest, truth(true))),
		float(-2.2250738585072014e-308), float(-1.7976931348623157e+308), pair(-2.2250738585072014e-308, -1.7976931348623157e+308),
		float(math.Nextafter(100000, 0)), float(100000), float(999999.9), float(999999.99999999999), float(1e6), float(1234567), float(1e21),
		float(0.0001), float(0.00011), float(0.00009999999999999999), float(0.00001), pair(1e6, 1e-7), pair(1e-7, -1e6), pair(-1e300, inf),
	)
	draw := rand.New(rand.NewSource(2))
	for range 300 {
		all = append(all, drawn(draw, 3))
	}
	return all
}

func drawn(draw *rand.Rand, deep int) api.Value {
	kinds := 8
	if deep == 0 {
		kinds = 7
	}
	switch draw.Intn(kinds) {
	case 1:
		return truth(draw.Intn(2) == 1)
	case 2:
		return integer(int64(draw.Uint64()) >> draw.Intn(64))
	case 3:
		return float(drawnFloat(draw))
	case 4:
		return pair(drawnFloat(draw), drawnFloat(draw))
	case 5:
		return words(drawnBytes(draw))
	case 6:
		return octets(drawnBytes(draw))
	case 7:
		items := make([]api.Value, draw.Intn(5))
		for i := range items {
			items[i] = drawn(draw, deep-1)
		}
		return list(items...)
	}
	return none()
}

func drawnFloat(draw *rand.Rand) float64 {
	switch draw.Intn(4) {
	case 0:
		return float64(draw.Intn(2_000_000)-1_000_000) / 8
	case 1:
		return []float64{nan, oddNaN, inf, minusInf, 0, minus0}[draw.Intn(6)]
	case 2:
		return math.Ldexp(draw.Float64()-0.5, draw.Intn(60)-30)
	}
	return math.Float64frombits(draw.Uint64())
}

func drawnBytes(draw *rand.Rand) string {
	const some = "a\"\\\x00\xff,] é"
	b := make([]byte, draw.Intn(6))
	for i := range b {
		b[i] = some[draw.Intn(len(some))]
	}
	return string(b)
}

// alike tells whether two values are alike field by field, every NaN as every other.
func alike(a, b api.Value) bool {
	if a.Kind != b.Kind || a.Int != b.Int || !alikeFloats(a.Re, b.Re) || !alikeFloats(a.Im, b.Im) || a.Text != b.Text || len(a.List) != len(b.List) {
		return false
	}
	for i := range a.List {
		if !alike(a.List[i], b.List[i]) {
			return false
		}
	}
	return true
}

func alikeFloats(x, y float64) bool {
	return x != x && y != y || math.Float64bits(x) == math.Float64bits(y)
}

// kept is a copy that shares nothing with v: what v was.
func kept(v api.Value) api.Value {
	items := v.List
	v.List = nil
	for _, item := range items {
		v.List = append(v.List, kept(item))
	}
	return v
}

// ill are values that may not be, each for one reason.
func ill() []api.Value {
	own := []api.Value{none(), truth(true), integer(5), float(1), pair(1, 2), words("a"), octets("a"), list(none())}
	counts := [][]uint8{{api.ValBool, api.ValInt}, {api.ValFloat, api.ValComplex}, {api.ValComplex}, {api.ValText, api.ValBytes}, {api.ValList}}
	var all []api.Value
	for _, v := range own {
		spoilt := make([]api.Value, len(counts))
		for i := range spoilt {
			spoilt[i] = v
		}
		spoilt[0].Int, spoilt[1].Re, spoilt[2].Im, spoilt[3].Text, spoilt[4].List = 1, minus0, minus0, "x", []api.Value{none()}
		for i, w := range spoilt {
			if !strings.ContainsRune(string(counts[i]), rune(v.Kind)) {
				all = append(all, w)
			}
		}
	}
	long := strings.Repeat("w", api.MaxWord+1)
	all = append(all,
		api.Value{Kind: 8}, api.Value{Kind: 255}, api.Value{Kind: api.ValBool, Int: 2}, api.Value{Kind: api.ValBool, Int: -1},
		api.Value{Kind: api.ValInt, Re: nan}, api.Value{Kind: api.ValFloat, Im: oddNaN}, api.Value{Kind: api.ValInt, Re: 1}, api.Value{Kind: api.ValFloat, Im: inf},
		words(long), octets(long), nested(api.MaxNest+1, none()), nested(api.MaxNest, list()), many(api.MaxTree, none()), many(api.MaxTree/2, list(none())),
		list(many(api.MaxTree-1, none())), list(none(), api.Value{Kind: 8}), nested(api.MaxNest, api.Value{Kind: api.ValInt, Text: "x"}),
		list(list(words(long))), endless(), doubled(11), doubled(60),
	)
	return all
}

// endless is a list that stands in itself.
func endless() api.Value {
	items := make([]api.Value, 2)
	items[0], items[1] = list(items...), list(items...)
	return list(items...)
}

// doubled is a list that stands twice in another one, that one twice in the next, and so on; counted as a tree it has 2 to the n less 1 values.
func doubled(n int) api.Value {
	v := none()
	for range n - 1 {
		v = list(v, v)
	}
	return v
}
