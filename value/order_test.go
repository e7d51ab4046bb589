package value_test

import (
	"testing"

	"errata/api"
	"errata/value"
)

// sameness is what the chapter says of two values that may be.
func sameness(a, b api.Value) int {
	switch {
	case a.Kind != b.Kind:
		return api.Unlike
	case a.Kind == api.ValBytes || a.Kind == api.ValList:
		return api.Panics
	case a.Int == b.Int && a.Re == b.Re && a.Im == b.Im && a.Text == b.Text: // by ==, so that a NaN is unlike itself, and noughts are alike
		return api.Same
	}
	return api.Unlike
}

func TestP2_2Same(t *testing.T) {
	all := someValues()[:180]
	for _, a := range all {
		for _, b := range all {
			if what, e := value.Same(a, b); what != sameness(a, b) || e != api.OK {
				t.Errorf("Same(%v, %v): %d, %d", a, b, what, e)
			}
		}
	}
	for i, x := range []struct {
		a, b api.Value
		what int
	}{
		{float(1), float(1), api.Same},
		{float(nan), float(nan), api.Unlike},
		{float(minus0), float(0), api.Same},
		{pair(minus0, 0), pair(0, minus0), api.Same},
		{pair(1, nan), pair(1, nan), api.Unlike},
		{pair(nan, 1), pair(nan, 1), api.Unlike},
		{integer(1), float(1), api.Unlike},
		{integer(1), truth(true), api.Unlike},
		{float(1), pair(1, 0), api.Unlike},
		{octets("a"), octets("b"), api.Panics},
		{octets(""), octets(""), api.Panics},
		{list(), list(none()), api.Panics},
		{list(octets("a")), list(octets("a")), api.Panics},
		{octets(""), list(), api.Unlike},
		{octets("a"), words("a"), api.Unlike},
		{none(), none(), api.Same},
		{none(), list(), api.Unlike},
		{words("a"), words("a"), api.Same},
		{truth(false), truth(false), api.Same},
		{truth(false), none(), api.Unlike},
	} {
		if what, e := value.Same(x.a, x.b); what != x.what || e != api.OK {
			t.Error(i, what, e)
		}
	}
}

func TestP2_2And3IllValues(t *testing.T) {
	for i, bad := range ill() {
		for _, two := range [][2]api.Value{{bad, none()}, {none(), bad}, {bad, bad}, {bad, octets("")}, {list(), bad}} {
			if what, e := value.Same(two[0], two[1]); what != 0 || e != api.ErrValue {
				t.Error("Same:", i, what, e)
			}
			if what, e := value.Compare(two[0], two[1]); what != 0 || e != api.ErrValue {
				t.Error("Compare:", i, what, e)
			}
		}
	}
}

func TestP2_3Compare(t *testing.T) {
	rungs := ladder()
	for i := range rungs {
		for j := range rungs {
			var asked int8
			switch {
			case i < j:
				asked = -1
			case i > j:
				asked = 1
			}
			for _, a := range rungs[i] {
				for _, b := range rungs[j] {
					if d, e := value.Compare(a, b); d != asked || e != api.OK {
						t.Errorf("Compare(%v, %v): %d, %d, not %d", a, b, d, e, asked)
					}
				}
			}
		}
	}
}

func TestP2_3CompareWithinLists(t *testing.T) {
	rungs := ladder()
	for i := range len(rungs) - 1 {
		low, high := rungs[i][0], rungs[i+1][0]
		if i == len(rungs)-2 {
			high = list(list(list(none()))) // the deepest one may stand in no other
		}
		if i == len(rungs)-3 {
			continue
		}
		for k, x := range []struct {
			a, b  api.Value
			asked int8
		}{
			{list(low, high), list(high), -1},
			{list(high), list(low, high), 1},
			{list(high, low), list(high, high), -1},
			{list(none(), high), list(none(), low), 1},
			{list(high), list(high, low), -1},
			{list(list(low)), list(list(high)), -1},
			{list(low, high, low), list(low, high, low), 0},
		} {
			if d, e := value.Compare(x.a, x.b); d != x.asked || e != api.OK {
				t.Errorf("%d, %d: Compare(%v, %v): %d, %d", i, k, x.a, x.b, d, e)
			}
		}
	}
}

func TestExamplesOfCompare(t *testing.T) {
	for i, x := range []struct {
		a, b  api.Value
		asked int8
	}{
		{float(nan), float(minusInf), -1},
		{float(nan), float(minusNaN), 0},
		{float(minus0), float(0), -1},
		{truth(true), integer(0), -1},
		{list(integer(1)), list(integer(1), integer(2)), -1},
	} {
		if d, e := value.Compare(x.a, x.b); d != x.asked || e != api.OK {
			t.Error(i, d, e)
		}
	}
}

// TestP2_7Order: 0 just of values alike, turned round the other sign, and from one to the next.
func TestP2_7Order(t *testing.T) {
	all := someValues()
	all = append(all[:60:60], all[len(all)-60:]...)
	order := make([][]int8, len(all))
	for i, a := range all {
		order[i] = make([]int8, len(all))
		for j, b := range all {
			d, e := value.Compare(a, b)
			if back, _ := value.Compare(b, a); e != api.OK || back != -d || (d == 0) != alike(a, b) {
				t.Errorf("Compare(%v, %v): %d, %d, back %d", a, b, d, e, back)
			}
			order[i][j] = d
		}
	}
	for i := range all {
		for j := range all {
			for k := range all {
				if order[i][j] <= 0 && order[j][k] <= 0 && order[i][k] > 0 {
					t.Fatalf("%v, %v, %v", all[i], all[j], all[k])
				}
			}
		}
	}
}

// unsigned is v with noughts that have no signs.
func unsigned(v api.Value) api.Value {
	if v.Re == 0 {
		v.Re = 0
	}
	if v.Im == 0 {
		v.Im = 0
	}
	return v
}

func TestP2_7SameOnlyWhereCompareTells0(t *testing.T) {
	all := someValues()
	for _, a := range all {
		for _, b := range all {
			what, _ := value.Same(a, b)
			if d, _ := value.Compare(unsigned(a), unsigned(b)); what == api.Same && d != 0 {
				t.Errorf("Same(%v, %v), but %d", a, b, d)
			}
		}
	}
}
