package nat

import "podium/api"

// isValid looks at the number of digits first, so that it never looks at more than MaxDigits.
func isValid(x api.Big) bool {
	n := len(x.Mag)
	if n > api.MaxDigits {
		return false
	}
	for _, d := range x.Mag {
		if d < 0 || d >= api.Base {
			return false
		}
	}
	if n == 0 {
		return !x.Neg
	}
	return x.Mag[n-1] != 0
}

// number returns the integer with these digits. It panics if they are too many.
func number(negative bool, digits []int) api.Big {
	return api.Big{Neg: negative && len(digits) > 0, Mag: withinLimit(digits)}
}

// withinLimit returns digits, if they are not too many for an integer; otherwise it ends the work.
func withinLimit(digits []int) []int {
	if len(digits) > api.MaxDigits {
		panic(api.ErrLimit)
	}
	return digits
}

// absolute returns a uint64, because the least int has no opposite.
func absolute(n int) uint64 {
	if n < 0 {
		return -uint64(n)
	}
	return uint64(n)
}

// toInt gives each digit its sign before it is added, because the least int has no opposite.
func toInt(x api.Big) (n int) {
	sign := 1
	if x.Neg {
		sign = -1
	}
	for _, d := range fromLast(x.Mag) {
		n = n*api.Base + sign*d
	}
	return n
}

func opposite(x api.Big) api.Big {
	return number(!x.Neg, x.Mag)
}

func compareSigned(a, b api.Big) int {
	switch {
	case a.Neg && b.Neg:
		return compare(b.Mag, a.Mag)
	case a.Neg:
		return -1
	case b.Neg:
		return 1
	}
	return compare(a.Mag, b.Mag)
}

func sum(a, b api.Big) api.Big {
	if a.Neg == b.Neg {
		return number(a.Neg, combine(1, a.Mag, 1, b.Mag))
	}
	if compare(a.Mag, b.Mag) < 0 {
		a, b = b, a
	}
	return number(a.Neg, combine(1, a.Mag, -1, b.Mag))
}

// divideSigned divides by an integer that is not 0.
func divideSigned(a, b api.Big) (q, r api.Big) {
	times, rest := divide(a.Mag, b.Mag)
	if a.Neg && len(rest) > 0 {
		// One more b is taken out of a, so that the rest is not less than 0.
		times, rest = combine(1, times, 1, []int{1}), combine(1, b.Mag, -1, rest)
	}
	return number(a.Neg != b.Neg, times), number(false, rest)
}
