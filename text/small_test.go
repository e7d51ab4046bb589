package text_test

import (
	"math"
	"testing"

	"errata/text"
)

// apart is a number modulo 256, from -128 to 127, by whole steps of 256.
func apart(n int) int {
	for n < -128 {
		n += 256
	}
	for n > 127 {
		n -= 256
	}
	return n
}

func TestP1_5LowAndNear(t *testing.T) {
	for n := math.MinInt16; n <= math.MaxInt16; n++ {
		if l := text.Low(int16(n)); int(l) != apart(n) {
			t.Fatalf("Low(%d): %d", n, l)
		}
		near := n
		if n < -128 {
			near = -128
		} else if n > 127 {
			near = 127
		}
		if m := text.Near(int16(n)); int(m) != near {
			t.Fatalf("Near(%d): %d", n, m)
		}
	}
}

func TestP1_5Sum(t *testing.T) {
	for a := -128; a <= 127; a++ {
		for b := -128; b <= 127; b++ {
			s, over := text.Sum(int8(a), int8(b))
			if int(s) != apart(a+b) || over != (a+b < -128 || a+b > 127) {
				t.Fatalf("Sum(%d, %d): %d, %t", a, b, s, over)
			}
		}
	}
}

func TestP1_5Turn(t *testing.T) {
	for n := math.MinInt16 + 1; n <= math.MaxInt16; n++ {
		if m, ok := text.Turn(int16(n)); int(m) != -n || !ok {
			t.Fatalf("Turn(%d): %d, %t", n, m, ok)
		}
	}
	if m, ok := text.Turn(math.MinInt16); m != math.MinInt16 || ok {
		t.Errorf("Turn(-32768): %d, %t", m, ok)
	}
}

func TestP1_5Examples(t *testing.T) {
	if text.Low(300) != 44 || text.Low(-129) != 127 || text.Near(300) != 127 || text.Near(-129) != -128 {
		t.Error("Low, Near")
	}
	if s, over := text.Sum(100, 100); s != -56 || !over {
		t.Error("Sum(100, 100):", s, over)
	}
	if s, over := text.Sum(-128, 127); s != -1 || over {
		t.Error("Sum(-128, 127):", s, over)
	}
	if n, ok := text.Turn(5); n != -5 || !ok {
		t.Error("Turn(5):", n, ok)
	}
}
