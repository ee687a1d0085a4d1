package nat_test

import (
	"math/rand"
	"testing"

	"podium/api"
	"podium/nat"
)

// ok returns a result that is no error.
func ok(x api.Big, e api.Errno) api.Big {
	if e != api.OK {
		panic(e)
	}
	return x
}

func add(a, b api.Big) api.Big { return ok(nat.Add(a, b)) }
func sub(a, b api.Big) api.Big { return ok(nat.Sub(a, b)) }
func mul(a, b api.Big) api.Big { return ok(nat.Mul(a, b)) }
func gcd(a, b api.Big) api.Big { return ok(nat.Gcd(a, b)) }

func less(t *testing.T, a, b api.Big) bool {
	t.Helper()
	c, e := nat.Cmp(a, b)
	if e != api.OK {
		t.Fatal(e)
	}
	return c < 0
}

// divides reports whether a is a multiple of d, which is not 0.
func divides(t *testing.T, d, a api.Big) bool {
	t.Helper()
	_, r, e := nat.Div(a, d)
	if e != api.OK {
		t.Fatal(e)
	}
	return isZero(r)
}

// P9.5: of all quotients and rests that are near, exactly one pair has the properties, and it is the one that Div returns.
func TestOneQuotient(t *testing.T) {
	for a := -30; a <= 30; a++ {
		for b := -12; b <= 12; b++ {
			if b == 0 {
				continue
			}
			found := 0
			q, r, e := nat.Div(nat.Make(a), nat.Make(b))
			for s := -40; s <= 40; s++ {
				u := a - s*b
				if u < 0 || u >= max(b, -b) {
					continue
				}
				found++
				if e != api.OK || !same(q, nat.Make(s)) || !same(r, nat.Make(u)) {
					t.Error(a, b, q, r, e)
				}
			}
			if found != 1 {
				t.Error(a, b, found)
			}
		}
	}
}

// P9.5: quotient and rest have the properties, and those with one more or one less do not.
func TestQuotients(t *testing.T) {
	r := rand.New(rand.NewSource(6))
	for range 3000 {
		a, b := random(r, 7), random(r, 5)
		if isZero(b) {
			continue
		}
		q, rest, e := nat.Div(a, b)
		if e != api.OK {
			t.Fatal(e)
		}
		size := api.Big{Mag: b.Mag}
		if !same(add(mul(q, b), rest), a) || rest.Neg || !less(t, rest, size) {
			t.Error(a, b, q, rest)
		}
		for _, other := range []api.Big{add(q, digits(1)), sub(q, digits(1))} {
			if u := sub(a, mul(other, b)); !u.Neg && less(t, u, size) {
				t.Error(a, b, other, u)
			}
		}
	}
}

// P9.6: the laws of integers.
func TestLaws(t *testing.T) {
	zero, one := api.Big{}, digits(1)
	r := rand.New(rand.NewSource(7))
	for range 2000 {
		a, b, c := random(r, 6), random(r, 6), random(r, 6)
		for i, holds := range []bool{
			same(add(a, b), add(b, a)),
			same(add(add(a, b), c), add(a, add(b, c))),
			same(add(a, zero), a),
			same(sub(a, a), zero),
			same(sub(add(a, b), b), a),
			same(sub(a, b), sub(zero, sub(b, a))),
			same(mul(a, b), mul(b, a)),
			same(mul(mul(a, b), c), mul(a, mul(b, c))),
			same(mul(a, one), a),
			same(mul(a, zero), zero),
			same(mul(a, add(b, c)), add(mul(a, b), mul(a, c))),
			less(t, a, b) == sub(a, b).Neg,
			less(t, a, b) == less(t, add(a, c), add(b, c)),
			less(t, a, b) == less(t, sub(zero, b), sub(zero, a)),
			less(t, a, b) || less(t, b, a) || same(a, b),
		} {
			if !holds {
				t.Error(i, a, b, c)
			}
		}
		if q, u, e := nat.Div(mul(a, b), b); !isZero(b) && (e != api.OK || !same(q, a) || !isZero(u)) {
			t.Error(a, b, q, u, e)
		}
	}
}

// P9.6: what divides two integers divides their Gcd, which divides both.
func TestDivisors(t *testing.T) {
	for a := -40; a <= 40; a++ {
		for b := -40; b <= 40; b++ {
			x, y := nat.Make(a), nat.Make(b)
			g := gcd(x, y)
			if g.Neg || isZero(g) != (a == 0 && b == 0) {
				t.Error(a, b, g)
			}
			for d := 1; d <= 40; d++ {
				both := a%d == 0 && b%d == 0
				if divides(t, nat.Make(d), g) != both {
					t.Error(a, b, d, g)
				}
			}
		}
	}
	r := rand.New(rand.NewSource(8))
	for range 500 {
		a, b, d := random(r, 6), random(r, 6), random(r, 3)
		if isZero(d) || isZero(a) {
			continue
		}
		a, b = mul(a, d), mul(b, d)
		g := gcd(a, b)
		if !divides(t, d, g) || !divides(t, g, a) || !divides(t, g, b) || g.Neg {
			t.Error(a, b, d, g)
		}
		if !same(g, gcd(b, a)) || !same(g, gcd(add(a, b), b)) || !same(g, gcd(sub(api.Big{}, a), b)) {
			t.Error(a, b, g)
		}
	}
}

// P9.6: each number of sets is the sum of two of one element less.
func TestNumbersOfSets(t *testing.T) {
	check := func(n, k int) {
		if c := ok(nat.Choose(n, k)); !same(c, add(ok(nat.Choose(n-1, k-1)), ok(nat.Choose(n-1, k)))) {
			t.Error(n, k, c)
		}
	}
	for n := 1; n <= 60; n++ {
		for k := -2; k <= n+2; k++ {
			check(n, k)
		}
	}
	for _, k := range []int{-1, 0, 1, 2, 1000, 2047, 2048, 2049, 4095, 4096, 4097} {
		check(4096, k)
		check(4095, k)
	}
}

// P9.6: reading a text returns the integer, and writing what was read the text.
func TestTextsComeBack(t *testing.T) {
	r := rand.New(rand.NewSource(10))
	for i := range 3000 {
		x := random(r, 1+i%20)
		s, e := nat.Text(x)
		y, f := nat.Read(s)
		if e != api.OK || f != api.OK || !same(x, y) {
			t.Error(x, s, y, e, f)
		}
	}
	for range 3000 {
		b := []byte{"-123456789"[r.Intn(10)]}
		for range r.Intn(60) {
			b = append(b, "0000123456789999"[r.Intn(16)])
		}
		x, e := nat.Read(string(b))
		if e == api.ErrNat && b[0] == '-' && (len(b) == 1 || b[1] == '0') {
			continue
		}
		if s, f := nat.Text(x); e != api.OK || f != api.OK || s != string(b) {
			t.Errorf("%s: %s %d %d", b, s, e, f)
		}
	}
}
