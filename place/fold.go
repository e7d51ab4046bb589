package place

import "errata/api"

// Run is places, so many times one behind the other.
type Run struct {
	Places []Place
	Times  int
}

// Fold is a stack in runs, made from the outermost place on.
func Fold(l []Place) ([]Run, api.Errno) {
	if e := Check(l); e != api.OK {
		return nil, e
	}
	var runs []Run
	alone := false // whether the last run is of places that stand alone
	for len(l) > 0 {
		period, times := block(l)
		next := copies(l[:period])
		if alone && times == 1 {
			last := &runs[len(runs)-1]
			last.Places = append(last.Places, next...)
		} else {
			runs = append(runs, Run{Places: next, Times: times})
		}
		alone = times == 1
		l = l[period*times:]
	}
	return runs, api.OK
}

// block is how many of the first places come again at once, and how often they stand there: the most places together, of several such the fewest. One place, once, where none come again.
func block(l []Place) (period, times int) {
	period, times = 1, 1
	for p := 1; p <= MaxPeriod && 2*p <= len(l); p++ {
		k := repeats(l, p)
		if k > 1 && p*k > period*times {
			period, times = p, k
		}
	}
	return period, times
}

// repeats is how often the first p places, which there must be, stand one behind the other.
func repeats(l []Place, p int) int {
	k := 1
search:
	for ; (k+1)*p <= len(l); k++ {
		for i, first := range l[:p] {
			if l[k*p+i] != first {
				break search
			}
		}
	}
	return k
}

// Unfold is the stack that runs are.
func Unfold(l []Run) ([]Place, api.Errno) {
	for _, r := range l {
		if r.Times < 1 || len(r.Places) == 0 {
			return nil, api.ErrArg
		}
	}
	if tooMany(l) {
		return nil, api.ErrStack
	}
	var out []Place
	for _, r := range l {
		if e := Check(r.Places); e != api.OK {
			return nil, e
		}
		for range r.Times {
			out = append(out, copies(r.Places)...)
		}
	}
	return out, api.OK
}

// tooMany says whether runs are more places than a stack has. It stops as soon as they are: the whole of them may be more than a number can tell.
func tooMany(l []Run) bool {
	n := 0
	for _, r := range l {
		if r.Times > MaxPlaces || len(r.Places) > MaxPlaces {
			return true
		}
		n += len(r.Places) * r.Times
		if n > MaxPlaces {
			return true
		}
	}
	return false
}
