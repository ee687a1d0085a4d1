package nat

import (
	"math/rand"
	"testing"

	"podium/api"
)

// euclid returns as many steps of Euclid's algorithm for a and b as it takes to reach these factors, and whether it reaches them.
func euclid(a, b int, want steps) (n int, ok bool) {
	s := steps{xa: 1, yb: 1}
	for ; s != want && b > 0; n++ {
		q := a / b
		s = steps{s.ya, s.yb, s.xa - q*s.ya, s.xb - q*s.yb}
		a, b = b, a-q*b
	}
	return n, s == want
}

// P9.3: what Gcd does with the leading digits of two integers alone is what it would do with all of them. A test of Gcd cannot show that it takes many steps at once, so this one does.
func TestCommonSteps(t *testing.T) {
	r := rand.New(rand.NewSource(11))
	const tries = 20000
	all := 0
	for range tries {
		x := 1<<59 + r.Intn(1<<59)
		y := r.Intn(x+1) >> (r.Intn(60) / 40 * r.Intn(60))
		s := commonSteps(x, y)
		for _, f := range []int{s.xa, s.xb, s.ya, s.yb} {
			if f <= -api.Base || f >= api.Base {
				t.Error(x, y, s)
			}
		}
		// The greatest and the least quotients are those of numbers that go on with one more bit, or with none.
		for _, p := range [][2]int{{2 * x, 2*y + 1}, {2*x + 1, 2 * y}, {2 * x, 2 * y}, {2*x + 1, 2*y + 1}} {
			n, ok := euclid(p[0], p[1], s)
			if !ok {
				t.Error(p, s)
			}
			all += n
		}
	}
	// Two random digits allow about 17 steps.
	if all < tries*4*12 {
		t.Error("too few steps", all)
	}
	for _, x := range []int{1 << 59, 1<<60 - 1} {
		for _, y := range []int{0, 1} {
			if s := commonSteps(x, y); s != (steps{xa: 1, yb: 1}) {
				t.Error(x, y, s)
			}
		}
	}
}
