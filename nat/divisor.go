package nat

import "math/bits"

// steps are steps of Euclid's algorithm: they replace a and b by xa*a + xb*b and ya*a + yb*b.
type steps struct{ xa, xb, ya, yb int }

// commonDivisor returns the greatest number that divides a and b, or 0 if both are 0.
func commonDivisor(a, b []int) []int {
	if compare(a, b) < 0 {
		a, b = b, a
	}
	for len(b) > 0 {
		if len(a) <= 2 {
			return digitsOf(smallDivisor(small(a), small(b)))
		}
		a, b = reduce(a, b)
	}
	return a
}

// smallDivisor is commonDivisor for numbers of at most two digits.
func smallDivisor(a, b uint64) uint64 {
	for b > 0 {
		a, b = b, a%b
	}
	return a
}

// small returns a number of at most two digits.
func small(digits []int) (u uint64) {
	for _, d := range fromLast(digits) {
		u = u<<digitBits | uint64(d)
	}
	return u
}

// reduce returns what some steps, at least one, make of a and b. a has more than two digits, and is not less than b, which is not 0.
func reduce(a, b []int) (x, y []int) {
	top := len(a) - 1
	// As many bits as the last digit of a has are left out, so that two digits remain.
	without := bits.Len(uint(a[top]))
	s := commonSteps(leading(a, top, without), leading(b, top, without))
	if s.xb == 0 {
		_, rest := divide(a, b)
		return b, rest
	}
	return combine(s.xa, a, s.xb, b), combine(s.ya, a, s.yb, b)
}

// leading returns the digits of x at the places top to top-2, without as many bits at their end. x has no digits after top.
func leading(x []int, top, without int) int {
	at := func(place int) int {
		if place < len(x) {
			return x[place]
		}
		return 0
	}
	return at(top)<<(2*digitBits-without) | at(top-1)<<(digitBits-without) | at(top-2)>>without
}

// commonSteps returns the steps, maybe none, that all numbers with the leading digits x and y have in common. x is not less than y. The quotients of such numbers lie between two that follow from x and y alone; where these are equal, so are all of them. (This is Lehmer's algorithm, as Knuth describes it.)
func commonSteps(x, y int) steps {
	s := steps{xa: 1, yb: 1}
	for y+s.ya > 0 && y+s.yb > 0 {
		q := (x + s.xa) / (y + s.ya)
		if q != (x+s.xb)/(y+s.yb) {
			break
		}
		// Since both quotients are q, the new ya and yb are at most y. Their products with y are at most the first x, which has two digits. So they are less than Base.
		s = steps{s.ya, s.yb, s.xa - q*s.ya, s.xb - q*s.yb}
		x, y = y, x-q*y
	}
	return s
}
