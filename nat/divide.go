package nat

import (
	"math/bits"
	"slices"
)

// divide returns how often b, which is not 0, is contained in a, and what is left.
func divide(a, b []int) (q, r []int) {
	if len(a) < len(b) {
		return nil, a
	}
	if len(b) == 1 {
		q, d := divideByDigit(a, b[0])
		return q, trim([]int{d})
	}
	rest := slices.Concat(a, []int{0})
	q = make([]int, len(rest)-len(b))
	for at := range fromLast(q) {
		q[at] = takeOut(rest[at:at+len(b)+1], b)
	}
	return trim(q), trim(rest)
}

func divideByDigit(a []int, b int) (q []int, r int) {
	q = make([]int, len(a))
	for at, d := range fromLast(a) {
		r = r<<digitBits | d
		q[at], r = r/b, r%b
	}
	return trim(q), r
}

// takeOut subtracts b from part as often as it is contained there, and returns how often this is. part has one digit more than b, which can be 0, and is less than Base times b.
func takeOut(part, b []int) int {
	n := guess(part, b)
	addTimes(part, -n, b)
	// What remains is less than b. If it has one more digit, it is less than 0.
	if part[len(b)] != 0 {
		addTimes(part, 1, b)
		n--
	}
	return n
}

// guess returns how often b is contained in part, or one more. It looks at three digits of part and two of b only. These two are at least Base, so the digits after them change the quotient, which is at most Base, by less than 1.
func guess(part, b []int) int {
	n := len(b)
	high, middle, low := uint64(part[n]), uint64(part[n-1]), uint64(part[n-2])
	q, _ := bits.Div64(high>>(64-2*digitBits), high<<(2*digitBits)|middle<<digitBits|low, uint64(b[n-1]<<digitBits|b[n-2]))
	return min(int(q), topDigit)
}
