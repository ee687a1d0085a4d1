package nat

import (
	"cmp"
	"iter"

	"podium/api"
)

// Digits, here and in the other files, are those of a number that is not less than 0: to the base Base, the least significant one first, without zeros at the end, so that there are none for 0. Only lists that are still being worked on can have zeros at the end.

const (
	digitBits = 30
	topDigit  = api.Base - 1
)

// digitsOf returns the digits of a number.
func digitsOf(u uint64) (digits []int) {
	for ; u > 0; u >>= digitBits {
		digits = append(digits, int(u&topDigit))
	}
	return digits
}

// fromLast yields digits with their places, from the last one on.
func fromLast(digits []int) iter.Seq2[int, int] {
	return func(yield func(at, digit int) bool) {
		for i := len(digits) - 1; i >= 0; i-- {
			if !yield(i, digits[i]) {
				return
			}
		}
	}
}

// trim returns digits without zeros at the end.
func trim(digits []int) []int {
	for at, d := range fromLast(digits) {
		if d != 0 {
			return digits[:at+1]
		}
	}
	return nil
}

func compare(a, b []int) int {
	if len(a) != len(b) {
		return cmp.Compare(len(a), len(b))
	}
	for at, d := range fromLast(a) {
		if d != b[at] {
			return cmp.Compare(d, b[at])
		}
	}
	return 0
}

// carrier returns a function that is given the sums at the places of a number, one after the other, and returns its digits. Sums, and what is carried on, can be negative.
func carrier() (next func(sum int) (digit int)) {
	carried := 0
	return func(sum int) int {
		sum += carried
		carried = sum >> digitBits
		return sum & topDigit
	}
}

// combine returns m times a and n times b together. This must not be less than 0, and have at most one digit more than the longer one of a and b. The factors are from -Base to Base.
func combine(m int, a []int, n int, b []int) []int {
	if len(a) < len(b) {
		m, a, n, b = n, b, m, a
	}
	digits := make([]int, len(a)+1)
	next := carrier()
	for i, d := range b {
		digits[i] = next(m*a[i] + n*d)
	}
	for i := len(b); i < len(a); i++ {
		digits[i] = next(m * a[i])
	}
	digits[len(a)] = next(0)
	return trim(digits)
}

// times returns m times a. The factor is from 0 to Base.
func times(m int, a []int) []int {
	return combine(m, a, 0, nil)
}

// addTimes adds n times a to the digits of total at the places of a, and carries on to one place more, but not beyond it.
func addTimes(total []int, n int, a []int) {
	next := carrier()
	for i, d := range a {
		total[i] = next(total[i] + n*d)
	}
	total[len(a)] = next(total[len(a)])
}

func product(a, b []int) []int {
	total := make([]int, len(a)+len(b))
rows:
	for i, d := range a {
		if d == 0 {
			continue rows
		}
		addTimes(total[i:], d, b)
	}
	return trim(total)
}

// choices returns how many sets of k elements a set of n elements has.
func choices(n, k int) []int {
	if k < 0 || k > n {
		return nil
	}
	number := []int{1}
	for i := range min(k, n-k) {
		number, _ = divideByDigit(times(n-i, number), i+1)
	}
	return number
}
