package text

import "math"

// Low is a number's low eight bits.
func Low(n int16) int8 { return int8(n) }

// Near is the nearest small number.
func Near(n int16) int8 { return int8(min(max(n, math.MinInt8), math.MaxInt8)) }

// Sum is a sum that wraps, and whether it did.
func Sum(a, b int8) (int8, bool) {
	whole := int16(a) + int16(b)
	low := Low(whole)
	return low, int16(low) != whole
}

// Turn is a number with the other sign, and whether there is one.
func Turn(n int16) (int16, bool) { return -n, n != math.MinInt16 }
