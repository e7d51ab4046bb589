package compare

import (
	"slices"

	"errata/api"
	"errata/kinds"
)

// Within what outcomeOf guards the language compares, and looks into its maps, and nothing else is called: so each panic is one of comparing.

// outcomeOf is what a question comes to that is asked by comparing.
func outcomeOf(isSame func() bool) (outcome int) {
	defer func() {
		if recover() != nil {
			outcome = api.Panics
		}
	}()
	if isSame() {
		return api.Same
	}
	return api.Unlike
}

func two(x, y error) int {
	return outcomeOf(func() bool { return x == y })
}

func four(x, y [4]error) int {
	return outcomeOf(func() bool { return x == y })
}

// rows compares place by place up to the first that is unlike, as four does; rows of unlike lengths are not gone through.
func rows(x, y []error) int {
	return outcomeOf(func() bool { return slices.Equal(x, y) })
}

// isSteady tells whether an error is the Same as itself; then it may be a key, too, because all that is in it was compared without a panic.
func isSteady(err error) bool { return two(err, err) == api.Same }

// canCompare asks for the types by name: that comparing an error with itself panics may be the fault of what it holds.
func canCompare(err error) bool {
	switch err.(type) {
	case kinds.Tags, kinds.Lazy, kinds.Bag, kinds.Box[[]uint8]:
		return false
	}
	return true
}
