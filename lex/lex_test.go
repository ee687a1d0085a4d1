package lex_test

import (
	"math"
	"math/big"
	"math/rand"
	"regexp"
	"slices"
	"strings"
	"testing"

	"podium/api"
	"podium/lex"
)

const signs = "{}();,=:.<>!+-*/"

func name(s string, at int) api.Token { return api.Token{Kind: api.NameT, Text: s, At: at} }

func number(n, at int) api.Token { return api.Token{Kind: api.NumberT, N: n, At: at} }

func sign(s string, at int) api.Token { return api.Token{Kind: api.SignT, Text: s, At: at} }

// result is what Lex returns.
type result struct {
	l  []api.Token
	at int
	e  api.Errno
}

func lexed(src string) result {
	l, at, e := lex.Lex(src)
	return result{l, at, e}
}

func tokens(l ...api.Token) result { return result{l, 0, api.OK} }

func wrong(at int) result { return result{nil, at, api.ErrText} }

func equal(a, b result) bool {
	return slices.Equal(a.l, b.l) && a.at == b.at && a.e == b.e
}

// brief describes a source that can be long.
func brief(src string) string {
	if len(src) > 80 {
		return src[:40] + "..." + src[len(src)-40:]
	}
	return src
}

func check(t *testing.T, src string, want result) {
	t.Helper()
	if got := lexed(src); !equal(got, want) {
		t.Errorf("%q: %v %d %d, not %v %d %d", brief(src), got.l, got.at, got.e, want.l, want.at, want.e)
	}
}

var (
	passed = regexp.MustCompile(`^(?:[ \t\n\r]|//[^\n]*)*`)
	names  = regexp.MustCompile(`^[A-Za-z][A-Za-z0-9_]*`)
	digits = regexp.MustCompile(`^[0-9]+`)
	plain  = regexp.MustCompile(`^(?:0|[1-9][0-9]*)$`)
	aSign  = regexp.MustCompile(`^[{}();,=:.<>!+\-*/]`)
)

// defined follows the definition of Lex with regular expressions and big integers.
func defined(src string) result {
	if len(src) > api.MaxSource {
		return result{nil, 0, api.ErrLimit}
	}
	var l []api.Token
	for at := 0; ; {
		at += len(passed.FindString(src[at:]))
		rest := src[at:]
		if rest == "" {
			return tokens(l...)
		}
		if s := names.FindString(rest); s != "" {
			if len(s) > api.MaxName {
				return wrong(at)
			}
			l = append(l, name(s, at))
			at += len(s)
		} else if s := digits.FindString(rest); s != "" {
			n, _ := new(big.Int).SetString(s, 10)
			if !plain.MatchString(s) || n.Cmp(big.NewInt(api.MaxNum)) > 0 {
				return wrong(at)
			}
			l = append(l, number(int(n.Int64()), at))
			at += len(s)
		} else if s := aSign.FindString(rest); s != "" {
			l = append(l, sign(s, at))
			at += len(s)
		} else {
			return wrong(at)
		}
	}
}

// P3.1: sources and their tokens, by hand.
func TestLex(t *testing.T) {
	x32 := strings.Repeat("x", api.MaxName)
	for _, x := range []struct {
		src  string
		want result
	}{
		{"", tokens()},
		{" ", tokens()},
		{" \t\n\r\r\n\t ", tokens()},
		{"sum 30;", tokens(name("sum", 0), number(30, 4), sign(";", 6))},
		{"a=1", tokens(name("a", 0), sign("=", 1), number(1, 2))},
		{"a\tb\nc\rd e", tokens(name("a", 0), name("b", 2), name("c", 4), name("d", 6), name("e", 8))},
		{"score art + 2 * skill", tokens(name("score", 0), name("art", 6), sign("+", 10), number(2, 12), sign("*", 14), name("skill", 16))},
		{"B_12", tokens(name("B_12", 0))},
		{"a_ A__9z", tokens(name("a_", 0), name("A__9z", 3))},
		{"azAZ", tokens(name("azAZ", 0))},
		{"12ab", tokens(number(12, 0), name("ab", 2))},
		{"0a", tokens(number(0, 0), name("a", 1))},
		{"a-1", tokens(name("a", 0), sign("-", 1), number(1, 2))},
		{"1.5", tokens(number(1, 0), sign(".", 1), number(5, 2))},
		{"1.05", wrong(2)},
		{"<=>=!=", tokens(sign("<", 0), sign("=", 1), sign(">", 2), sign("=", 3), sign("!", 4), sign("=", 5))},
		{x32, tokens(name(x32, 0))},
		{" " + x32 + " " + x32, tokens(name(x32, 1), name(x32, 2+api.MaxName))},
		{"a" + strings.Repeat("_", api.MaxName-1), tokens(name("a"+strings.Repeat("_", api.MaxName-1), 0))},
		{x32 + "x", wrong(0)},
		{x32 + "0", wrong(0)},
		{x32 + "_", wrong(0)},
		{x32 + "-", tokens(name(x32, 0), sign("-", api.MaxName))},
		{"; " + x32 + "x;", wrong(2)},
		{strings.Repeat("x", 100), wrong(0)},
		{"_", wrong(0)},
		{"_12", wrong(0)},
		{"a _b", wrong(2)},
		{"1_", wrong(1)},
		{"$", wrong(0)},
		{"a $", wrong(2)},
		{"a$", wrong(1)},
		{"a $ 007", wrong(2)},
		{"a 007 $", wrong(2)},
		{"\x00", wrong(0)},
		{"\v", wrong(0)},
		{"\f", wrong(0)},
		{"\u00a0", wrong(0)},
		{"\ufeffa", wrong(0)},
		{"é", wrong(0)},
		{"aé", wrong(1)},
		{"a\xff", wrong(1)},
		{"１", wrong(0)},
		{"\"a\"", wrong(0)},
	} {
		check(t, x.src, x.want)
		check(t, x.src, defined(x.src))
	}
}

// P3.1: numbers, without superfluous digits, and not too great; also where 64 bits would overflow.
func TestNumbers(t *testing.T) {
	for _, x := range []struct {
		src  string
		want result
	}{
		{"0", tokens(number(0, 0))},
		{"9", tokens(number(9, 0))},
		{"10", tokens(number(10, 0))},
		{"1234567890", tokens(number(1234567890, 0))},
		{"0 0", tokens(number(0, 0), number(0, 2))},
		{"-0", tokens(sign("-", 0), number(0, 1))},
		{"00", wrong(0)},
		{"01", wrong(0)},
		{"007", wrong(0)},
		{" 1 01", wrong(3)},
		{"1099511627775", tokens(number(api.MaxNum-1, 0))},
		{"1099511627776", tokens(number(api.MaxNum, 0))},
		{"1099511627777", wrong(0)},
		{"1099511627780", wrong(0)},
		{"10995116277760", wrong(0)},
		{"01099511627776", wrong(0)},
		{"9223372036854775807", wrong(0)},
		{"9223372036854775808", wrong(0)},
		{"18446744073709551615", wrong(0)},
		{"18446744073709551616", wrong(0)},
		{"18446744073709551617", wrong(0)},
		{"36893488147419103232", wrong(0)},
		{"; 340282366920938463463374607431768211457", wrong(2)},
		{"1" + strings.Repeat("0", 12), tokens(number(1000000000000, 0))},
		{"1" + strings.Repeat("0", 13), wrong(0)},
		{"1" + strings.Repeat("0", 64), wrong(0)},
		{strings.Repeat("0", 64), wrong(0)},
	} {
		check(t, x.src, x.want)
		check(t, x.src, defined(x.src))
	}
}

// P3.1: comments, up to the end of the line or of the source.
func TestComments(t *testing.T) {
	for _, x := range []struct {
		src  string
		want result
	}{
		{"//", tokens()},
		{"///", tokens()},
		{"////", tokens()},
		{"//\n", tokens()},
		{"//\n//", tokens()},
		{"a // b", tokens(name("a", 0))},
		{"a//b\nc", tokens(name("a", 0), name("c", 5))},
		{"1//2", tokens(number(1, 0))},
		{"// a // b\nc", tokens(name("c", 10))},
		{"// a\rb\nc", tokens(name("c", 7))},
		{"// a\r\nc", tokens(name("c", 6))},
		{"// \x00\xff$é 007\nc", tokens(name("c", 13))},
		{"// $", tokens()},
		{"//\n$", wrong(3)},
		{"//\n\n007", wrong(4)},
		{"/", tokens(sign("/", 0))},
		{"/ /", tokens(sign("/", 0), sign("/", 2))},
		{"/\n/", tokens(sign("/", 0), sign("/", 2))},
		{"1/2", tokens(number(1, 0), sign("/", 1), number(2, 2))},
		{"a/ //b\n/c", tokens(name("a", 0), sign("/", 1), sign("/", 7), name("c", 8))},
		{"*///", tokens(sign("*", 0))},
		{"/* a */", tokens(sign("/", 0), sign("*", 1), name("a", 3), sign("*", 5), sign("/", 6))},
	} {
		check(t, x.src, x.want)
		check(t, x.src, defined(x.src))
	}
}

// alone returns what Lex returns for the source of one byte.
func alone(c byte) result {
	s := string([]byte{c})
	switch {
	case 'a' <= c && c <= 'z' || 'A' <= c && c <= 'Z':
		return tokens(name(s, 0))
	case '0' <= c && c <= '9':
		return tokens(number(int(c-'0'), 0))
	case strings.IndexByte(signs, c) >= 0:
		return tokens(sign(s, 0))
	case c == ' ' || c == '\t' || c == '\n' || c == '\r':
		return tokens()
	}
	return wrong(0)
}

// P3.1: each byte alone, and each one between others.
func TestBytes(t *testing.T) {
	for i := range 256 {
		c := string([]byte{byte(i)})
		check(t, c, alone(byte(i)))
		check(t, "//"+c+"\n/", defined("//"+c+"\n/"))
		for k := range 256 {
			src := c + string([]byte{byte(k)})
			check(t, src, defined(src))
		}
		for _, around := range []string{"a", "A", "9", "0", "_", ";", "/", " ", "\n"} {
			src := around + c + around
			check(t, src, defined(src))
		}
	}
	if len(signs) != 16 {
		t.Error(len(signs))
	}
}

// P3.1: all sources of at most five of these bytes.
func TestShortSources(t *testing.T) {
	var extend func(src string)
	extend = func(src string) {
		check(t, src, defined(src))
		if len(src) == 5 {
			return
		}
		for _, c := range []string{"a", "_", "0", "7", "/", "+", " ", "\n", "$"} {
			extend(src + c)
		}
	}
	extend("")
}

// pieces are parts of sources, of which some are wrong, or become so beside others.
func pieces() []string {
	return []string{
		"a", "B_12", strings.Repeat("q", api.MaxName-1), strings.Repeat("q", api.MaxName), "_",
		"0", "7", "30", "1099511627776", "1099511627777", "1", "109951162777",
		";", "{", "/", "//", "// c", "*", "<", "=",
		" ", "\n", "\t", "\r", "\n\n", " \n", "\n", " ", " ", "\n",
		"é", "\x00",
	}
}

// randomSource returns a source of at most n pieces. Wrong ones are rare, so that most sources are read far.
func randomSource(r *rand.Rand, n int) string {
	p := pieces()
	var b strings.Builder
	for range r.Intn(n + 1) {
		b.WriteString(p[r.Intn(len(p)-2)])
		if r.Intn(4) > 0 {
			b.WriteString(" ")
		}
		if r.Intn(60) == 0 {
			b.WriteString(p[len(p)-1-r.Intn(2)])
		}
	}
	return b.String()
}

// P3.1: random sources.
func TestRandomSources(t *testing.T) {
	r := rand.New(rand.NewSource(3))
	right := 0
	for range 20000 {
		src := randomSource(r, 30)
		want := defined(src)
		check(t, src, want)
		if want.e == api.OK {
			right++
		}
	}
	if right < 1000 || right > 19000 {
		t.Error("the sources are too much alike", right)
	}
}

// P3.1: sources of the greatest length, and longer ones, whatever they contain.
func TestLimit(t *testing.T) {
	for i, x := range []struct {
		part string
		want api.Errno
	}{
		{" ", api.OK},
		{"\n", api.OK},
		{"/", api.OK},
		{";", api.OK},
		{"//\n ", api.OK},
		{"abc ", api.OK},
		{"1;", api.OK},
		{"a", api.ErrText},
		{"1", api.ErrText},
		{"0", api.ErrText},
		{"$", api.ErrText},
		{"\xff", api.ErrText},
	} {
		src := strings.Repeat(x.part, api.MaxSource/len(x.part))
		if len(src) != api.MaxSource {
			t.Fatal(i)
		}
		if got := lexed(src); got.e != x.want || !equal(got, defined(src)) {
			t.Error(i, got.at, got.e)
		}
		for _, more := range []string{" ", x.part, "$", src} {
			check(t, src+more, result{nil, 0, api.ErrLimit})
		}
	}
	last := strings.Repeat(" ", api.MaxSource-1)
	check(t, last+"a", tokens(name("a", api.MaxSource-1)))
	check(t, last+"$", wrong(api.MaxSource-1))
}

// validTokens are valid, whatever their places, with their texts.
var validTokens = []struct {
	t    api.Token
	want string
}{
	{name("a", 0), "a"},
	{name("Z", -5), "Z"},
	{name("B_12", math.MaxInt), "B_12"},
	{name("abcdefghijklmnopqrstuvwxyz_01234", math.MinInt), "abcdefghijklmnopqrstuvwxyz_01234"},
	{number(0, 0), "0"},
	{number(7, -1), "7"},
	{number(30, 1<<50), "30"},
	{number(api.MaxNum-1, 0), "1099511627775"},
	{number(api.MaxNum, 0), "1099511627776"},
	{sign("/", 0), "/"},
	{sign("{", 9), "{"},
}

// invalidTokens are tokens that are not valid.
var invalidTokens = []api.Token{
	{},
	{Text: "a"},
	{N: 1},
	{Kind: -1, Text: "a"},
	{Kind: 4, Text: "a"},
	{Kind: 257, Text: "a"},
	{Kind: math.MaxInt},
	{Kind: math.MinInt},
	name("", 0),
	name("_", 0),
	name("_12", 0),
	name("1a", 0),
	name("a b", 0),
	name(" a", 0),
	name("a ", 0),
	name("a\n", 0),
	name("a-b", 0),
	name(";", 0),
	name("é", 0),
	name("a\x80", 0),
	name("abcdefghijklmnopqrstuvwxyz_012345", 0),
	{Kind: api.NameT, Text: "a", N: 1},
	{Kind: api.NameT, Text: "a", N: -1},
	{Kind: api.NameT, N: 1},
	number(-1, 0),
	number(math.MinInt, 0),
	number(api.MaxNum+1, 0),
	number(math.MaxInt, 0),
	{Kind: api.NumberT, Text: "1", N: 1},
	{Kind: api.NumberT, Text: " "},
	sign("", 0),
	sign("//", 0),
	sign("<=", 0),
	sign("; ", 0),
	sign(" ", 0),
	sign("\n", 0),
	sign("a", 0),
	sign("1", 0),
	sign("_", 0),
	sign("$", 0),
	sign("#", 0),
	sign("\x00", 0),
	sign("\xff", 0),
	{Kind: api.SignT, Text: ";", N: 1},
	{Kind: api.SignT, Text: ";", N: -1},
}

// P3.2: the texts of valid tokens, with one space between two.
func TestText(t *testing.T) {
	var all []api.Token
	var texts []string
	for i, x := range validTokens {
		if s, e := lex.Text([]api.Token{x.t}); e != api.OK || s != x.want {
			t.Errorf("%d %q %d", i, s, e)
		}
		all = append(all, x.t)
		texts = append(texts, x.want)
		if s, e := lex.Text(all); e != api.OK || s != strings.Join(texts, " ") {
			t.Errorf("%d %q %d", i, s, e)
		}
	}
	for _, l := range [][]api.Token{nil, {}} {
		if s, e := lex.Text(l); e != api.OK || s != "" {
			t.Errorf("%q %d", s, e)
		}
	}
	for i := range 256 {
		c := string([]byte{byte(i)})
		want := ""
		if strings.Contains(signs, c) {
			want = c
		}
		if s, e := lex.Text([]api.Token{sign(c, 0)}); s != want || (e == api.OK) != (want != "") {
			t.Errorf("%q %q %d", c, s, e)
		}
	}
}

// P3.2: tokens of which one is not valid, at any place in the list.
func TestTextRefuses(t *testing.T) {
	var all []api.Token
	for _, x := range validTokens {
		all = append(all, x.t)
	}
	for i, bad := range invalidTokens {
		if s, e := lex.Text([]api.Token{bad}); e != api.ErrText || s != "" {
			t.Errorf("%d %q %d", i, s, e)
		}
		for k := range len(all) + 1 {
			if s, e := lex.Text(slices.Insert(slices.Clone(all), k, bad)); e != api.ErrText || s != "" {
				t.Errorf("%d %d %q %d", i, k, s, e)
			}
		}
	}
}

// P3.2: a text can be too long to be read.
func TestLongText(t *testing.T) {
	s, e := lex.Text(slices.Repeat([]api.Token{sign(";", 0)}, api.MaxSource))
	if e != api.OK || len(s) != 2*api.MaxSource-1 || strings.Trim(s, "; ") != "" || strings.Count(s, "; ") != api.MaxSource-1 {
		t.Error(len(s), e)
	}
	check(t, s, result{nil, 0, api.ErrLimit})
}

// P3.2: tokens are the same, valid or not, if all but their places are.
func TestSame(t *testing.T) {
	different := slices.Clone(invalidTokens)
	for _, x := range validTokens {
		different = append(different, x.t)
	}
	a := name("a", 0)
	for i, x := range different {
		for k, y := range different {
			y.At = x.At + 1
			for _, l := range [][2][]api.Token{
				{{x}, {y}},
				{{x, a}, {y, a}},
				{{a, x}, {a, y}},
				{{a, x, a}, {a, y, a}},
			} {
				if lex.Same(l[0], l[1]) != (i == k) {
					t.Error(i, k, l)
				}
			}
		}
	}
	lists := [][]api.Token{{}, {{}}, {{}, {}}, {a}, {a, a}, {a, {}}, {{}, a}, {a, a, a}}
	for i, x := range lists {
		for k, y := range lists {
			if lex.Same(x, y) != (i == k) {
				t.Error(i, k)
			}
		}
	}
	if !lex.Same(nil, []api.Token{}) || !lex.Same([]api.Token{}, nil) || !lex.Same(nil, nil) {
		t.Error("nil and empty")
	}
}

// P3.2: names, of all lengths, and with each byte at each of three places.
func TestName(t *testing.T) {
	whole := regexp.MustCompile(`^[A-Za-z][A-Za-z0-9_]{0,31}\z`)
	for n := range 70 {
		for _, c := range []string{"x", "X", "_", "1"} {
			if s := strings.Repeat(c, n); lex.Name(s) != whole.MatchString(s) {
				t.Error(s)
			}
			if s := "a" + strings.Repeat(c, n); lex.Name(s) != (n < api.MaxName) {
				t.Error(s)
			}
		}
	}
	for i := range 256 {
		c := string([]byte{byte(i)})
		for _, s := range []string{c, c + "b", "a" + c, "a" + c + "b", strings.Repeat("x", 31) + c, c + strings.Repeat("x", 31)} {
			if lex.Name(s) != whole.MatchString(s) {
				t.Errorf("%q", s)
			}
		}
	}
	for s, want := range map[string]bool{"": false, "B_12": true, "_12": false, "a ": false, "a\n": false, "//": false, "é": false} {
		if lex.Name(s) != want {
			t.Errorf("%q", s)
		}
	}
}

// sources are right and wrong ones.
func sources() []string {
	l := []string{"", "a $", "007", "sum 30;", "a // b", "/", "//", "a/", "// $"}
	r := rand.New(rand.NewSource(33))
	for range 300 {
		l = append(l, randomSource(r, 12))
	}
	return l
}

// P3.3: Lex of what Text returns are the same tokens.
func TestLexOfText(t *testing.T) {
	var all []api.Token
	for _, x := range validTokens {
		all = append(all, x.t)
	}
	lists := [][]api.Token{all}
	for _, a := range all {
		for _, b := range all {
			lists = append(lists, []api.Token{a, b})
		}
	}
	for _, src := range sources() {
		lists = append(lists, lexed(src).l)
	}
	for _, l := range lists {
		src, e := lex.Text(l)
		got := lexed(src)
		if e != api.OK || got.e != api.OK || got.at != 0 || !lex.Same(got.l, l) {
			t.Errorf("%v: %q %d, %v %d", l, src, e, got.l, got.e)
		}
	}
}

// P3.3: places are strictly increasing, and at each of them the text of the token stands.
func TestPlaces(t *testing.T) {
	for _, src := range sources() {
		end := 0
		for _, x := range lexed(src).l {
			s, e := lex.Text([]api.Token{x})
			if e != api.OK || x.At < end || !strings.HasPrefix(src[x.At:], s) {
				t.Errorf("%q: %v %q %d", src, x, s, e)
			}
			end = x.At + len(s)
		}
	}
}

// P3.3: the tokens of two sources with a line feed between them.
func TestJoined(t *testing.T) {
	l := sources()
	for _, a := range l {
		for _, b := range l {
			x, y, got := lexed(a), lexed(b), lexed(a+"\n"+b)
			if x.e != api.OK {
				if !equal(got, x) {
					t.Errorf("%q %q %v", a, b, got)
				}
				continue
			}
			shift := len(a) + 1
			if y.e != api.OK {
				if !equal(got, wrong(shift+y.at)) {
					t.Errorf("%q %q %v", a, b, got)
				}
				continue
			}
			want := slices.Clone(x.l)
			for _, k := range y.l {
				k.At += shift
				want = append(want, k)
			}
			if !equal(got, tokens(want...)) {
				t.Errorf("%q %q %v", a, b, got)
			}
		}
	}
}

// P3.3: white space and comments have no tokens.
func TestNoTokens(t *testing.T) {
	r := rand.New(rand.NewSource(333))
	gaps := []string{" ", "\t", "\n", "\r", "//\n", "// a 007 $\n", "\n///\n", " // 1\r\n\t"}
	gap := func() string {
		s := ""
		for range 1 + r.Intn(3) {
			s += gaps[r.Intn(len(gaps))]
		}
		return s
	}
	for range 1000 {
		check(t, gap(), tokens())
		check(t, gap()+"// a", tokens())
		src, want := gap(), []api.Token(nil)
		for range r.Intn(8) {
			x := validTokens[r.Intn(len(validTokens))]
			x.t.At = len(src)
			want = append(want, x.t)
			// A slash must not stand before the slashes of a comment.
			src += x.want + " " + gap()
		}
		check(t, src, tokens(want...))
	}
}

// P3.3: the source before the place of an error has tokens; what follows is wrong from its first byte on.
func TestBeforeError(t *testing.T) {
	many := 0
	for _, src := range sources() {
		x := lexed(src)
		if x.e == api.OK {
			continue
		}
		many++
		before := lexed(src[:x.at])
		if before.e != api.OK || before.at != 0 || x.at >= len(src) {
			t.Errorf("%q %v %v", src, x, before)
		}
		check(t, src[x.at:], wrong(0))
	}
	if many < 10 {
		t.Error("too few errors", many)
	}
}

// P3.1, P3.2: calls change neither their arguments nor earlier results, and equal calls return equal results.
func TestPure(t *testing.T) {
	src := "ab = 17; // c"
	first := lexed(src)
	kept := slices.Clone(first.l)
	lexed("xyz + 4 * 5 - 6 007")
	s, _ := lex.Text(first.l)
	lex.Same(first.l, kept)
	if !slices.Equal(first.l, kept) || s != "ab = 17 ;" || !equal(lexed(src), first) {
		t.Error(first, s)
	}
	_ = append(first.l, name("z", 0))
	if !equal(lexed(src), first) {
		t.Error("a result was kept")
	}
}

// P3.1, P3.3: whatever the source is. Run it with -fuzz to search for more sources.
func FuzzLex(f *testing.F) {
	for _, src := range sources() {
		f.Add(src)
	}
	f.Fuzz(func(t *testing.T, src string) {
		got := lexed(src)
		if !equal(got, defined(src)) {
			t.Errorf("%q %v", src, got)
		}
		if s, e := lex.Text(got.l); e != api.OK || len(s) <= api.MaxSource && !lex.Same(lexed(s).l, got.l) {
			t.Errorf("%q %q %d", src, s, e)
		}
	})
}
