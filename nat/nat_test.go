package nat_test

import (
	"math"
	"math/big"
	"math/rand"
	"slices"
	"strings"
	"testing"

	"podium/api"
	"podium/nat"
)

// P9.1: integers by hand, with the example of the chapter.
func TestMake(t *testing.T) {
	for i, x := range []struct {
		n    int
		want api.Big
	}{
		{0, api.Big{}},
		{1, digits(1)},
		{-1, negative(digits(1))},
		{5, digits(5)},
		{top, digits(top)},
		{-top, negative(digits(top))},
		{api.Base, digits(0, 1)},
		{-api.Base, negative(digits(0, 1))},
		{api.Base + 7, digits(7, 1)},
		{1<<60 - 1, digits(top, top)},
		{1 << 60, digits(0, 0, 1)},
		{1<<60 + 1<<30*3 + 2, digits(2, 3, 1)},
		{math.MaxInt, digits(top, top, 7)},
		{-math.MaxInt, negative(digits(top, top, 7))},
		{math.MinInt, negative(digits(0, 0, 8))},
		{math.MinInt + 1, negative(digits(top, top, 7))},
	} {
		if y := nat.Make(x.n); !same(y, x.want) {
			t.Error(i, x.n, y)
		}
	}
}

// P9.1: all ints at the ends of digits come back.
func TestMakeAndInt(t *testing.T) {
	for bit := range 64 {
		for d := -3; d <= 3; d++ {
			for _, n := range []int{1<<bit + d, -(1 << bit) + d, d} {
				x := nat.Make(n)
				m, ok, e := nat.Int(x)
				if !same(x, fromModel(big.NewInt(int64(n)))) || nat.Check(x) != api.OK || m != n || !ok || e != api.OK {
					t.Error(n, x, m, ok, e)
				}
			}
		}
	}
}

// P9.1: integers that are no ints, and those that just are.
func TestInt(t *testing.T) {
	for i, x := range []struct {
		x    api.Big
		want int
		ok   bool
	}{
		{digits(top, top, 7), math.MaxInt, true},
		{digits(0, 0, 8), 0, false},
		{digits(1, 0, 8), 0, false},
		{negative(digits(top, top, 7)), -math.MaxInt, true},
		{negative(digits(0, 0, 8)), math.MinInt, true},
		{negative(digits(1, 0, 8)), 0, false},
		{negative(digits(0, 1, 8)), 0, false},
		{digits(5, 0, 16), 0, false},
		{negative(digits(5, 0, 16)), 0, false},
		{digits(top, top, top), 0, false},
		{digits(0, 0, 0, 1), 0, false},
		{digits(1, 0, 0, 1), 0, false},
		{negative(digits(1, 0, 0, 1)), 0, false},
		{digits(1, 0, 0, 0, 1), 0, false},
		{full(2048), 0, false},
		{negative(full(2048)), 0, false},
		{api.Big{Mag: []int{}}, 0, true},
	} {
		if n, ok, e := nat.Int(x.x); n != x.want || ok != x.ok || e != api.OK {
			t.Error(i, n, ok, e)
		}
	}
	for _, x := range withDigits(4, 0, 1, 7, 8, 16, top) {
		m := toModel(x)
		n, ok, e := nat.Int(x)
		if ok != m.IsInt64() || ok && int64(n) != m.Int64() || !ok && n != 0 || e != api.OK {
			t.Error(m, n, ok, e)
		}
	}
}

// P9.1: what is valid. What is not is refused by all functions, as any of their arguments.
func TestCheck(t *testing.T) {
	for _, x := range append(withDigits(3, 0, 1, top), api.Big{Mag: []int{}}, full(2047), full(2048), negative(full(2048)), power(2047)) {
		if e := nat.Check(x); e != api.OK {
			t.Error(x, e)
		}
	}
	for i, x := range invalid() {
		if e := nat.Check(x); e != api.ErrNat {
			t.Error(i, e)
		}
		if n, ok, e := nat.Int(x); n != 0 || ok || e != api.ErrNat {
			t.Error(i, "Int", n, ok, e)
		}
		if s, e := nat.Text(x); s != "" || e != api.ErrNat {
			t.Error(i, "Text", s, e)
		}
	}
}

// P9.1 to P9.3: a Big that is not valid comes before a division by 0 and before the limit.
func TestInvalidPairs(t *testing.T) {
	valid := []api.Big{{}, digits(1), negative(digits(1)), power(2), full(2048), negative(full(2048))}
	for i, x := range invalid() {
		for _, y := range append(valid, x) {
			for _, p := range [][2]api.Big{{x, y}, {y, x}} {
				if c, e := nat.Cmp(p[0], p[1]); c != 0 || e != api.ErrNat {
					t.Error(i, "Cmp", c, e)
				}
				for k, f := range []func(a, b api.Big) (api.Big, api.Errno){nat.Add, nat.Sub, nat.Mul, nat.Gcd} {
					if z, e := f(p[0], p[1]); !isZero(z) || e != api.ErrNat {
						t.Error(i, k, e)
					}
				}
				if q, r, e := nat.Div(p[0], p[1]); !isZero(q) || !isZero(r) || e != api.ErrNat {
					t.Error(i, "Div", e)
				}
			}
		}
	}
}

// P9.1: comparisons by hand: signs come first, then the numbers of digits, then the last digits.
func TestCmp(t *testing.T) {
	inOrder := []api.Big{
		negative(full(2048)), negative(power(2047)), negative(full(2047)), negative(digits(0, 0, 1)), negative(digits(top, top)),
		negative(digits(1, 2)), negative(digits(2, 1)), negative(digits(1, 1)), negative(digits(0, 1)), negative(digits(top)), negative(digits(2)), negative(digits(1)),
		{}, digits(1), digits(2), digits(top), digits(0, 1), digits(1, 1), digits(2, 1), digits(1, 2), digits(top, top), digits(0, 0, 1),
		full(2047), power(2047), full(2048),
	}
	for i, a := range inOrder {
		for k, b := range inOrder {
			want := 0
			if i < k {
				want = -1
			}
			if i > k {
				want = 1
			}
			if c, e := nat.Cmp(a, b); c != want || e != api.OK {
				t.Error(i, k, c, e)
			}
		}
	}
}

// P9.2: sums, differences and products by hand, with the example of the chapter.
func TestSums(t *testing.T) {
	for i, x := range []struct{ a, b, sum, difference, product api.Big }{
		{},
		{digits(5), api.Big{}, digits(5), digits(5), api.Big{}},
		{api.Big{}, digits(5), digits(5), negative(digits(5)), api.Big{}},
		{api.Big{}, negative(digits(5)), negative(digits(5)), digits(5), api.Big{}},
		{digits(5), digits(7), digits(12), negative(digits(2)), digits(35)},
		{digits(5), negative(digits(7)), negative(digits(2)), digits(12), negative(digits(35))},
		{negative(digits(5)), digits(7), digits(2), negative(digits(12)), negative(digits(35))},
		{negative(digits(5)), negative(digits(7)), negative(digits(12)), digits(2), digits(35)},
		{digits(5), negative(digits(5)), api.Big{}, digits(10), negative(digits(25))},
		{digits(top), digits(1), digits(0, 1), digits(top - 1), digits(top)},
		{digits(top), digits(top), digits(top-1, 1), api.Big{}, digits(1, top-1)},
		{digits(0, 1), digits(1), digits(1, 1), digits(top), digits(0, 1)},
		{digits(0, 0, 0, 1), digits(1), digits(1, 0, 0, 1), digits(top, top, top), digits(0, 0, 0, 1)},
		{digits(top, top, top), digits(1), digits(0, 0, 0, 1), digits(top-1, top, top), digits(top, top, top)},
		{digits(1, 2, 3), digits(1, 2), digits(2, 4, 3), digits(0, 0, 3), digits(1, 4, 7, 6)},
		{digits(1, 2, 3), digits(0, 2, 3), digits(1, 4, 6), digits(1), digits(0, 2, 7, 12, 9)},
		{digits(0, 0, 5), digits(0, 0, 7), digits(0, 0, 12), negative(digits(0, 0, 2)), digits(0, 0, 0, 0, 35)},
	} {
		s, e := nat.Add(x.a, x.b)
		d, f := nat.Sub(x.a, x.b)
		p, g := nat.Mul(x.a, x.b)
		if e != api.OK || f != api.OK || g != api.OK || !same(s, x.sum) || !same(d, x.difference) || !same(p, x.product) {
			t.Error(i, s, d, p, e, f, g)
		}
	}
}

// P9.1 to P9.3: all pairs of integers of telling digits.
func TestPairs(t *testing.T) {
	all := withDigits(3, 0, 1, 1<<29, top)
	for _, a := range all {
		for _, b := range all {
			agree(t, a, b)
		}
	}
}

// P9.1 to P9.3: all pairs of small integers.
func TestSmallPairs(t *testing.T) {
	for m := -20; m <= 20; m++ {
		for n := -20; n <= 20; n++ {
			agree(t, nat.Make(m), nat.Make(n))
		}
	}
}

// P9.1 to P9.3: integers of all lengths, and pairs of which one is close to a multiple of the other.
func TestRandomPairs(t *testing.T) {
	r := rand.New(rand.NewSource(9))
	for _, size := range []int{2, 3, 4, 6, 10, 30, 100} {
		for range 3000 / size {
			a, b, c := random(r, size), random(r, size), random(r, 3)
			agree(t, a, b)
			m := new(big.Int).Mul(toModel(a), toModel(b))
			agree(t, fromModel(m), b)
			m.Add(m, toModel(c))
			agree(t, fromModel(m), b)
			agree(t, b, fromModel(m))
		}
	}
	for range 20 {
		agree(t, random(r, 2048), random(r, 2048))
		agree(t, random(r, 2048), random(r, 1100))
		agree(t, random(r, 1100), random(r, 1100))
	}
}

// P9.2: the limit of 2048 digits, just kept and just broken.
func TestLimits(t *testing.T) {
	one, two, f := digits(1), digits(2), full(2048)
	almost := api.Big{Mag: append(slices.Repeat([]int{top}, 2047), top-1)}
	for i, x := range []struct {
		f    func(a, b api.Big) (api.Big, api.Errno)
		a, b api.Big
		fits bool
	}{
		{nat.Add, f, one, false},
		{nat.Add, one, f, false},
		{nat.Add, f, f, false},
		{nat.Add, negative(f), negative(one), false},
		{nat.Add, f, negative(one), true},
		{nat.Add, negative(f), one, true},
		{nat.Add, f, negative(f), true},
		{nat.Add, f, api.Big{}, true},
		{nat.Add, almost, power(2047), true},
		{nat.Add, full(2047), one, true},
		{nat.Sub, f, one, true},
		{nat.Sub, f, negative(one), false},
		{nat.Sub, negative(f), one, false},
		{nat.Sub, negative(f), negative(one), true},
		{nat.Sub, f, f, true},
		{nat.Sub, f, negative(f), false},
		{nat.Sub, api.Big{}, f, true},
		{nat.Mul, f, one, true},
		{nat.Mul, negative(one), f, true},
		{nat.Mul, f, two, false},
		{nat.Mul, negative(two), f, false},
		{nat.Mul, f, api.Big{}, true},
		{nat.Mul, api.Big{}, f, true},
		{nat.Mul, f, f, false},
		{nat.Mul, full(1024), full(1024), true},
		{nat.Mul, full(1024), negative(full(1025)), false},
		{nat.Mul, power(1024), power(1023), true},
		{nat.Mul, power(1024), power(1024), false},
		{nat.Mul, power(1023), full(1025), true},
		{nat.Mul, full(1025), power(1023), true},
		{nat.Mul, power(1024), full(1025), false},
		{nat.Mul, full(2047), digits(top), true},
		{nat.Mul, full(2047), digits(0, 1), true},
		{nat.Mul, full(2047), digits(1, 1), false},
		{nat.Mul, power(2047), digits(top), true},
		{nat.Mul, power(2047), digits(0, 1), false},
	} {
		y, e := x.f(x.a, x.b)
		if (e == api.OK) != x.fits || !x.fits && (e != api.ErrLimit || !isZero(y)) || nat.Check(y) != api.OK {
			t.Error(i, e)
		}
		agree(t, x.a, x.b)
	}
}

// P9.3: the examples of the chapter, and each sign with and without a rest.
func TestDiv(t *testing.T) {
	for i, x := range [][4]int{
		{-7, 2, -4, 1},
		{-7, -2, 4, 1},
		{7, 2, 3, 1},
		{7, -2, -3, 1},
		{8, 2, 4, 0},
		{-8, 2, -4, 0},
		{8, -2, -4, 0},
		{-8, -2, 4, 0},
		{0, 5, 0, 0},
		{0, -5, 0, 0},
		{1, 5, 0, 1},
		{-1, 5, -1, 4},
		{1, -5, 0, 1},
		{-1, -5, 1, 4},
		{5, 5, 1, 0},
		{-5, 1, -5, 0},
		{-5, -1, 5, 0},
		{math.MinInt, api.Base, -1 << 33, 0},
		{math.MaxInt, 1 << 40, 1<<23 - 1, 1<<40 - 1},
		{-math.MaxInt, 1 << 40, -1 << 23, 1},
	} {
		q, r, e := nat.Div(nat.Make(x[0]), nat.Make(x[1]))
		if e != api.OK || !same(q, nat.Make(x[2])) || !same(r, nat.Make(x[3])) {
			t.Error(i, q, r, e)
		}
	}
	for i, x := range []api.Big{{}, digits(1), negative(digits(1)), full(2048)} {
		if q, r, e := nat.Div(x, api.Big{}); e != api.ErrArg || !isZero(q) || !isZero(r) {
			t.Error(i, q, r, e)
		}
	}
}

// P9.3: all quotients of numbers with telling digits, among them those whose digits are guessed wrongly.
func TestDivDigits(t *testing.T) {
	long, short := withDigits(5, 0, 1, top-1, top), withDigits(3, 0, 1, 1<<29, top)
	for i, a := range long {
		// Each a is taken with some of the b; all of both would take too long.
		for k := i % 7; k < len(short); k += 7 {
			agreeOnQuotients(t, a, short[k])
		}
	}
}

// P9.3: quotients and rests of the longest integers.
func TestDivLong(t *testing.T) {
	f := full(2048)
	for _, b := range []api.Big{digits(1), digits(2), digits(3), digits(top), digits(0, 1), digits(1, 1), digits(top, 1), digits(1, top), power(1024), full(1024), full(1025), power(2046), full(2047), power(2047), f} {
		for _, a := range []api.Big{f, power(2047), full(2047)} {
			for _, p := range [][2]api.Big{{a, b}, {negative(a), b}, {a, negative(b)}, {negative(a), negative(b)}} {
				agreeOnQuotients(t, p[0], p[1])
			}
		}
	}
}

// P9.3: the examples of the chapter, and 0.
func TestGcd(t *testing.T) {
	for i, x := range [][3]int{
		{0, 0, 0},
		{0, 5, 5},
		{5, 0, 5},
		{0, -5, 5},
		{-5, 0, 5},
		{1, 7, 1},
		{12, 18, 6},
		{-12, 18, 6},
		{12, -18, 6},
		{-12, -18, 6},
		{17, 19, 1},
		{8, 8, 8},
		{-8, 8, 8},
		{5, 25, 5},
		{1 << 60, 1 << 30, 1 << 30},
		{1<<60 - 1, 1<<30 - 1, 1<<30 - 1},
	} {
		if g, e := nat.Gcd(nat.Make(x[0]), nat.Make(x[1])); e != api.OK || !same(g, nat.Make(x[2])) {
			t.Error(i, g, e)
		}
	}
	if g, e := nat.Gcd(nat.Make(math.MinInt), nat.Make(math.MinInt)); e != api.OK || !same(g, digits(0, 0, 8)) {
		t.Error(g, e)
	}
}

// P9.3: integers whose quotients are all 1, or all a given one, or some greater ones in between.
func TestGcdQuotients(t *testing.T) {
	r := rand.New(rand.NewSource(3))
	for i, next := range []func() int64{
		func() int64 { return 1 },
		func() int64 { return 2 },
		func() int64 { return 1000 },
		func() int64 { return top },
		func() int64 { return api.Base },
		func() int64 { return api.Base + 1 },
		func() int64 { return 1 << 40 },
		func() int64 { return math.MaxInt64 },
		func() int64 { return 1 + r.Int63n(3) },
		func() int64 { return 1 + r.Int63()>>r.Intn(63) },
		func() int64 { return []int64{1, 1, 1, 1, top, api.Base, api.Base + 1}[r.Intn(7)] },
	} {
		// Numbers that grow slowly reach each number of bits.
		a, b := big.NewInt(0), big.NewInt(1)
		for n := 0; a.BitLen() < 3000; n++ {
			a, b = b, new(big.Int).Add(a, new(big.Int).Mul(b, big.NewInt(next())))
			x, y := fromModel(a), fromModel(b)
			agreeOnQuotients(t, x, y)
			if g, e := nat.Gcd(x, y); e != api.OK || !same(g, digits(1)) {
				t.Error(i, n, g, e)
			}
			factor := random(r, 4)
			u, _ := nat.Mul(x, factor)
			v, _ := nat.Mul(y, factor)
			if g, e := nat.Gcd(u, v); e != api.OK || !same(g, api.Big{Mag: factor.Mag}) {
				t.Error(i, n, g, e)
			}
		}
	}
}

// P9.3: the greatest divisors of the longest integers.
func TestGcdLong(t *testing.T) {
	f := full(2048)
	for i, x := range []struct{ a, b, want api.Big }{
		{f, f, f},
		{f, negative(f), f},
		{f, api.Big{}, f},
		{api.Big{}, negative(f), f},
		{f, power(2047), digits(1)},
		{f, full(1024), full(1024)},
		{full(1024), f, full(1024)},
		{f, full(2047), full(1)},
		{f, full(1536), full(512)},
		{power(2047), power(1000), power(1000)},
		{f, digits(1), digits(1)},
		{f, digits(3), digits(3)},
	} {
		if g, e := nat.Gcd(x.a, x.b); e != api.OK || !same(g, x.want) {
			t.Error(i, len(g.Mag), e)
		}
	}
	r := rand.New(rand.NewSource(4))
	for range 3 {
		m := new(big.Int).Rand(r, new(big.Int).Lsh(big.NewInt(1), most))
		n := new(big.Int).Rand(r, new(big.Int).Lsh(big.NewInt(1), most))
		agreeOnQuotients(t, fromModel(m), fromModel(n))
	}
}

// P9.3: numbers of sets, with the examples of the chapter.
func TestChoose(t *testing.T) {
	for i, x := range []struct {
		n, k int
		want api.Big
		e    api.Errno
	}{
		{5, 2, digits(10), api.OK},
		{5, 6, api.Big{}, api.OK},
		{-1, 0, api.Big{}, api.ErrArg},
		{-1, -1, api.Big{}, api.ErrArg},
		{0, 0, digits(1), api.OK},
		{0, 1, api.Big{}, api.OK},
		{0, -1, api.Big{}, api.OK},
		{7, 0, digits(1), api.OK},
		{7, 7, digits(1), api.OK},
		{7, math.MinInt, api.Big{}, api.OK},
		{7, math.MaxInt, api.Big{}, api.OK},
		{4096, 0, digits(1), api.OK},
		{4096, 1, digits(4096), api.OK},
		{4096, 4095, digits(4096), api.OK},
		{4096, 4096, digits(1), api.OK},
		{4096, 4097, api.Big{}, api.OK},
		{4096, -1, api.Big{}, api.OK},
		{4097, 1, api.Big{}, api.ErrArg},
		{4097, -1, api.Big{}, api.ErrArg},
		{math.MinInt, 0, api.Big{}, api.ErrArg},
		{math.MaxInt, math.MaxInt, api.Big{}, api.ErrArg},
	} {
		if c, e := nat.Choose(x.n, x.k); e != x.e || !same(c, x.want) {
			t.Error(i, c, e)
		}
	}
	for n := range 100 {
		for k := range n + 1 {
			if c, e := nat.Choose(n, k); !is(c, e, new(big.Int).Binomial(int64(n), int64(k))) {
				t.Error(n, k, c, e)
			}
		}
	}
	for _, n := range []int{1000, 4095, 4096} {
		for _, k := range []int{2, 3, 17, 100, 499, 500, 501, n / 2, n/2 + 1, n - 3} {
			if c, e := nat.Choose(n, k); !is(c, e, new(big.Int).Binomial(int64(n), int64(k))) {
				t.Error(n, k, e)
			}
		}
	}
}

// P9.4: texts, with zeros at and after the ends of parts.
func TestText(t *testing.T) {
	for i, s := range []string{
		"0", "1", "-1", "9", "10", "-10", "99", "100", "999999999", "1000000000", "1000000001", "1073741823", "1073741824", "-1073741824",
		"9999999999", "10000000000", "100000000000000000", "1000000000000000000", "1000000000000000001", "-1000000001000000000", "9223372036854775807", "-9223372036854775808",
		"10000000000000000000000000000", "123456789012345678901234567890123456789",
	} {
		x := number(t, s)
		got, e := nat.Text(x)
		y, f := nat.Read(s)
		if got != s || e != api.OK || !same(x, y) || f != api.OK {
			t.Error(i, s, got, e, y, f)
		}
	}
	if s, e := nat.Text(api.Big{Mag: []int{}}); s != "0" || e != api.OK {
		t.Error(s, e)
	}
	for _, x := range withDigits(4, 0, 1, 1<<29, top) {
		if s, e := nat.Text(x); s != toModel(x).String() || e != api.OK {
			t.Error(toModel(x), s, e)
		}
	}
	for n := range 40 {
		p := new(big.Int).Exp(big.NewInt(10), big.NewInt(int64(n)), nil)
		for d := int64(-1); d <= 1; d++ {
			m := new(big.Int).Add(p, big.NewInt(d))
			s, e := nat.Text(fromModel(m))
			if x, f := nat.Read(m.String()); s != m.String() || e != api.OK || !is(x, f, m) {
				t.Error(m, s, e, f)
			}
		}
	}
}

// P9.4: all strings of at most five of some telling bytes.
func TestReadStrings(t *testing.T) {
	all := []string{""}
	for i := 0; i < len(all); i++ {
		s := all[i]
		m, ok := new(big.Int).SetString(s, 10)
		ok = ok && m.String() == s
		x, e := nat.Read(s)
		if ok && !is(x, e, m) || !ok && (!isZero(x) || e != api.ErrNat) {
			t.Errorf("%q: %v %d", s, x, e)
		}
		if len(s) < 5 {
			for _, b := range "-+019_ a" {
				all = append(all, s+string(b))
			}
		}
	}
}

// P9.4: what is no text, as the chapter names it, and with each byte anywhere.
func TestReadRefuses(t *testing.T) {
	for _, s := range []string{
		"", "-", "--1", "-0", "00", "007", "-007", "+1", "+0", " 1", "1 ", "1\n", "1.0", "1e5", "0x1", "1_000", "1,000", "1-", "1-1", "-+1", "٣", "−1", "1\x00", "\xff",
		strings.Repeat("0", 20), "0" + strings.Repeat("9", 20), "-" + strings.Repeat("0", 9), "12345678901234567890a", "a12345678901234567890", "123456789-123456789", "123456789+12345678", "12345678 012345678",
	} {
		if x, e := nat.Read(s); !isZero(x) || e != api.ErrNat {
			t.Errorf("%q: %v %d", s, x, e)
		}
	}
	for at := range 20 {
		for b := range 256 {
			s := []byte("12345678912345678912")
			s[at] = byte(b)
			want := api.ErrNat
			if '1' <= b && b <= '9' || b == '0' && at > 0 || b == '-' && at == 0 {
				want = api.OK
			}
			if x, e := nat.Read(string(s)); e != want || e != api.OK && !isZero(x) {
				t.Errorf("%q: %v %d", s, x, e)
			}
		}
	}
}

// P9.4: the greatest integer has a text; the next one has none that is read.
func TestReadLimit(t *testing.T) {
	p := new(big.Int).Lsh(big.NewInt(1), most)
	m := new(big.Int).Sub(p, big.NewInt(1))
	for _, sign := range []string{"", "-"} {
		x := api.Big{Neg: sign != "", Mag: full(2048).Mag}
		s, e := nat.Text(x)
		y, f := nat.Read(sign + m.String())
		if s != sign+m.String() || e != api.OK || !same(y, x) || f != api.OK {
			t.Error(sign, e, f)
		}
		for _, end := range []string{p.String(), m.String() + "0", p.String() + "000000000", strings.Repeat("9", len(m.String())), strings.Repeat("9", 1000000)} {
			if z, e := nat.Read(sign + end); !isZero(z) || e != api.ErrNat {
				t.Error(sign, len(end), e)
			}
		}
		if z, e := nat.Read(sign + "1" + strings.Repeat("0", len(m.String())-1)); e != api.OK || len(z.Mag) != 2048 {
			t.Error(sign, e)
		}
	}
}

// R2: what functions are given, and what they have returned, stays as it is.
func TestPurity(t *testing.T) {
	r := rand.New(rand.NewSource(5))
	for range 300 {
		a, b := random(r, 8), random(r, 5)
		before := []api.Big{a, b}
		copies := []api.Big{{Neg: a.Neg, Mag: slices.Clone(a.Mag)}, {Neg: b.Neg, Mag: slices.Clone(b.Mag)}}
		for range 2 {
			for _, f := range []func(a, b api.Big) (api.Big, api.Errno){nat.Add, nat.Sub, nat.Mul, nat.Gcd} {
				x, _ := f(a, b)
				before, copies = append(before, x), append(copies, api.Big{Neg: x.Neg, Mag: slices.Clone(x.Mag)})
			}
			if q, s, e := nat.Div(a, b); e == api.OK {
				before = append(before, q, s)
				copies = append(copies, api.Big{Neg: q.Neg, Mag: slices.Clone(q.Mag)}, api.Big{Neg: s.Neg, Mag: slices.Clone(s.Mag)})
			}
			nat.Text(a)
			nat.Int(a)
			// The results of the first time are the arguments of the second one.
			a, b = before[2], before[3]
		}
		if !slices.EqualFunc(before, copies, same) {
			t.Fatal(copies)
		}
	}
}

func FuzzPairs(f *testing.F) {
	f.Add([]byte{1, 2, 3, 4, 5}, []byte{255, 255, 255, 255}, true, false)
	f.Fuzz(func(t *testing.T, a, b []byte, negA, negB bool) {
		m, n := new(big.Int).SetBytes(a), new(big.Int).SetBytes(b)
		if m.BitLen() > most || n.BitLen() > most {
			return
		}
		x, y := fromModel(m), fromModel(n)
		x.Neg, y.Neg = negA && len(x.Mag) > 0, negB && len(y.Mag) > 0
		agree(t, x, y)
		s, e := nat.Text(x)
		if z, g := nat.Read(s); s != toModel(x).String() || e != api.OK || !same(z, x) || g != api.OK {
			t.Error(s, e, g)
		}
	})
}
