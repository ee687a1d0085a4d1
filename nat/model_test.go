package nat_test

import (
	"math/big"
	"math/rand"
	"slices"
	"testing"

	"podium/api"
	"podium/nat"
)

// The model is Go's own math/big. It is read from digits, and written as digits, by the definition.

const top = api.Base - 1

// most is the number of bits of an integer with all digits that it can have.
const most = 30 * api.MaxDigits

func toModel(x api.Big) *big.Int {
	n := new(big.Int)
	for i := len(x.Mag) - 1; i >= 0; i-- {
		n.Lsh(n, 30)
		n.Add(n, big.NewInt(int64(x.Mag[i])))
	}
	if x.Neg {
		n.Neg(n)
	}
	return n
}

func fromModel(n *big.Int) (x api.Big) {
	rest := new(big.Int).Abs(n)
	base, digit := big.NewInt(api.Base), new(big.Int)
	for rest.Sign() > 0 {
		rest.QuoRem(rest, base, digit)
		x.Mag = append(x.Mag, int(digit.Int64()))
	}
	x.Neg = n.Sign() < 0
	return x
}

func same(a, b api.Big) bool { return a.Neg == b.Neg && slices.Equal(a.Mag, b.Mag) }

func isZero(x api.Big) bool { return same(x, api.Big{}) }

// is reports whether a result is the integer n of the model, or ErrLimit if this has too many digits.
func is(x api.Big, e api.Errno, n *big.Int) bool {
	if n.BitLen() > most {
		return e == api.ErrLimit && isZero(x)
	}
	return e == api.OK && same(x, fromModel(n))
}

func digits(l ...int) api.Big { return api.Big{Mag: l} }

func negative(x api.Big) api.Big { return api.Big{Neg: len(x.Mag) > 0, Mag: x.Mag} }

// full returns the greatest integer with n digits.
func full(n int) api.Big { return api.Big{Mag: slices.Repeat([]int{top}, n)} }

// power returns Base to the power of n, which has n + 1 digits.
func power(n int) api.Big { return api.Big{Mag: append(make([]int, n), 1)} }

// number returns the integer with this text.
func number(t *testing.T, s string) api.Big {
	t.Helper()
	n, ok := new(big.Int).SetString(s, 10)
	if !ok {
		t.Fatal(s)
	}
	return fromModel(n)
}

// withDigits returns all integers of at most n digits, all of which are in the list, with both signs.
func withDigits(n int, list ...int) (all []api.Big) {
	all = []api.Big{{}}
	mags := [][]int{{}}
	for range n {
		var longer [][]int
		for _, m := range mags {
			for _, d := range list {
				longer = append(longer, append(slices.Clone(m), d))
			}
		}
		mags = longer
		for _, m := range mags {
			if m[len(m)-1] != 0 {
				all = append(all, api.Big{Mag: m}, api.Big{Neg: true, Mag: m})
			}
		}
	}
	return all
}

// random returns an integer of at most n digits, of which many are the least or the greatest ones.
func random(r *rand.Rand, n int) (x api.Big) {
	for range r.Intn(n + 1) {
		x.Mag = append(x.Mag, []int{0, 1, top, top - 1, 1 << 29, r.Intn(api.Base), r.Intn(api.Base), r.Intn(api.Base)}[r.Intn(8)])
	}
	for len(x.Mag) > 0 && x.Mag[len(x.Mag)-1] == 0 {
		x.Mag = x.Mag[:len(x.Mag)-1]
	}
	x.Neg = len(x.Mag) > 0 && r.Intn(2) == 0
	return x
}

// invalid returns Bigs that stand for no integer.
func invalid() []api.Big {
	return []api.Big{
		{Neg: true},
		{Neg: true, Mag: []int{}},
		digits(0),
		digits(5, 0),
		digits(0, 0, 0),
		negative(digits(0)),
		negative(digits(5, 0)),
		digits(-1),
		digits(-1, 1),
		digits(1, -1, 1),
		digits(api.Base),
		digits(api.Base, 1),
		digits(1, api.Base, 1),
		digits(1, 1, api.Base),
		digits(1 << 32),
		digits(1 << 62),
		digits(-1 << 63),
		digits(1<<63 - 1),
		full(2049),
		negative(full(2049)),
		power(2048),
		full(5000),
		{Mag: make([]int, 2048)},
		{Mag: make([]int, 2049)},
	}
}

// agree compares all functions of two integers with the model.
func agree(t *testing.T, a, b api.Big) {
	t.Helper()
	m, n := toModel(a), toModel(b)
	if c, e := nat.Cmp(a, b); c != m.Cmp(n) || e != api.OK {
		t.Error("Cmp", m, n, c, e)
	}
	if x, e := nat.Add(a, b); !is(x, e, new(big.Int).Add(m, n)) {
		t.Error("Add", m, n, x, e)
	}
	if x, e := nat.Sub(a, b); !is(x, e, new(big.Int).Sub(m, n)) {
		t.Error("Sub", m, n, x, e)
	}
	if x, e := nat.Mul(a, b); !is(x, e, new(big.Int).Mul(m, n)) {
		t.Error("Mul", m, n, x, e)
	}
	agreeOnQuotients(t, a, b)
}

// agreeOnQuotients compares Div and Gcd with the model, whose DivMod is Euclid's division, too.
func agreeOnQuotients(t *testing.T, a, b api.Big) {
	t.Helper()
	m, n := toModel(a), toModel(b)
	q, r, e := nat.Div(a, b)
	if n.Sign() == 0 {
		if e != api.ErrArg || !isZero(q) || !isZero(r) {
			t.Error("Div", m, n, q, r, e)
		}
	} else if s, u := new(big.Int).DivMod(m, n, new(big.Int)); !is(q, e, s) || !is(r, e, u) {
		t.Error("Div", m, n, q, r, e)
	}
	if x, e := nat.Gcd(a, b); !is(x, e, new(big.Int).GCD(nil, nil, new(big.Int).Abs(m), new(big.Int).Abs(n))) {
		t.Error("Gcd", m, n, x, e)
	}
}
