package big_test

import (
	"math"
	gobig "math/big"
	"regexp"
	"slices"
	"strconv"
	"strings"
	"testing"

	"kerbside/api"
	"kerbside/big"
)

const top = 1048575 // the greatest digit

func digits(sign int, l ...int) api.Big { return api.Big{Sign: sign, Digits: l} }

// wrongs are big integers that are not right.
func wrongs() []api.Big {
	return []api.Big{
		digits(2, 1), digits(-2, 1), digits(3, 5, 6), digits(-3, 5, 6), digits(math.MaxInt, 1), digits(math.MinInt, 1), digits(256, 1), digits(1<<32, 1), digits(1<<32+1, 1),
		digits(1, -1), digits(1, -1, 1), digits(1, 1, -1), digits(1, 1, -1, 1), digits(-1, -1), digits(1, math.MinInt), digits(1, math.MinInt, 1), digits(1, 1, -1048576, 1), digits(1, 1, 1, 1, 1, 1, -1, 1),
		digits(1, top+1), digits(1, top+1, 1), digits(1, 1, top+1), digits(1, 1, top+1, 1), digits(-1, top+1), digits(1, 1<<21), digits(1, math.MaxInt), digits(1, math.MaxInt, 1), digits(1, 1<<32, 1), digits(1, 1, 1, 1, 1, 1, top+1, 1),
		digits(1, 0), digits(-1, 0), digits(1, 1, 0), digits(-1, 1, 0), digits(1, 0, 0, 0), digits(1, 1, 2, 3, 4, 0), digits(1, 5, 0, 0),
		digits(0, 1), digits(0, 0), digits(0, top, 7), digits(0, 0, 0), digits(0, -1),
		digits(1), digits(-1), {Sign: 1, Digits: []int{}}, {Sign: -1, Digits: []int{}}, digits(2), digits(math.MinInt), digits(math.MaxInt),
	}
}

// rights are big integers that are right, of several sizes.
func rights() []api.Big {
	return []api.Big{
		{}, {Digits: []int{}}, digits(1, 1), digits(-1, 1), digits(1, top), digits(-1, top), digits(1, 0, 1), digits(-1, 0, 1), digits(1, top, top), digits(1, 0, 0, 1), digits(-1, top, top, top),
		digits(1, 0, 0, 0, 1), digits(1, top, top, top, top), digits(-1, 5, 0, 0, 0, 0, 7), digits(1, 1, 2, 3, 4, 5, 6, 7, 8, 9),
	}
}

// The chapter's examples.

func TestExamples(t *testing.T) {
	if a := big.Of(1048577); a.Sign != 1 || !slices.Equal(a.Digits, []int{1, 1}) {
		t.Errorf("Of(1048577) is %v", a)
	}
	p, e := big.Mul(big.Of(-99999999999), big.Of(99999999999))
	if big.Text(p) != "-9999999999800000000001" || e != api.OK {
		t.Errorf("the product is %s, error %d", big.Text(p), e)
	}
	for _, c := range []struct{ a, b, quotient, remainder int }{{-7, 2, -4, 1}, {7, -2, -4, -1}, {-7, -2, 3, -1}} {
		q, r, e := big.Div(big.Of(c.a), big.Of(c.b))
		isInt(t, "the quotient", q, e, c.quotient)
		isInt(t, "the remainder", r, e, c.remainder)
	}
	g, e := big.Gcd(big.Of(-12), big.Of(18))
	isInt(t, "Gcd of -12 and 18", g, e, 6)
	g, e = big.Gcd(big.Of(0), big.Of(-5))
	isInt(t, "Gcd of 0 and -5", g, e, 5)
	for _, s := range []string{"007", "-0", ""} {
		refuses(t, s)
	}
	power := digits(1, 0, 0, 0, 8)
	if n, is := big.Int(power); n != 0 || is {
		t.Errorf("Int of 2^63 is %d, %t", n, is)
	}
	if n, is := big.Int(big.Neg(power)); n != math.MinInt || !is {
		t.Errorf("Int of -2^63 is %d, %t", n, is)
	}
}

func isInt(t *testing.T, what string, a api.Big, e api.Errno, want int) {
	t.Helper()
	if e != api.OK || !equal(a, of(gobig.NewInt(int64(want)))) {
		t.Errorf("%s is %v, error %d, want %d", what, a, e, want)
	}
}

func refuses(t *testing.T, s string) {
	t.Helper()
	if a, e := big.Read(s); e != api.ErrForm || !equal(a, api.Big{}) {
		t.Errorf("Read(%.60q) is %v, error %d, want ErrForm", s, a, e)
	}
}

// P4.1

func TestRight(t *testing.T) {
	for _, a := range rights() {
		if !big.Right(a) {
			t.Errorf("%v is right", a)
		}
	}
	for _, a := range wrongs() {
		if big.Right(a) {
			t.Errorf("%v is not right", a)
		}
	}
}

func TestRightLooksAtEachDigit(t *testing.T) {
	for n := 1; n < 20; n++ {
		for i := range n {
			for _, d := range []int{0, 1, top, -1, top + 1, math.MinInt, math.MaxInt} {
				a := digits(1, slices.Repeat([]int{1}, n)...)
				a.Digits[i] = d
				want := 0 <= d && d <= top && (d > 0 || i < n-1)
				if big.Right(a) != want {
					t.Errorf("Right(%v) is %t", a, !want)
				}
			}
		}
	}
}

func TestOf(t *testing.T) {
	for _, c := range []struct {
		n    int
		want api.Big
	}{
		{0, api.Big{}}, {1, digits(1, 1)}, {-1, digits(-1, 1)}, {top, digits(1, top)}, {-top, digits(-1, top)}, {top + 1, digits(1, 0, 1)}, {-top - 1, digits(-1, 0, 1)},
		{1<<40 - 1, digits(1, top, top)}, {1 << 40, digits(1, 0, 0, 1)}, {1<<60 - 1, digits(1, top, top, top)}, {1 << 60, digits(1, 0, 0, 0, 1)}, {-1 << 60, digits(-1, 0, 0, 0, 1)},
		{math.MaxInt, digits(1, top, top, top, 7)}, {math.MaxInt - 1, digits(1, top-1, top, top, 7)}, {-math.MaxInt, digits(-1, top, top, top, 7)}, {math.MinInt, digits(-1, 0, 0, 0, 8)},
		{3 + 5<<20 + 7<<40, digits(1, 3, 5, 7)},
	} {
		if got := big.Of(c.n); !equal(got, c.want) {
			t.Errorf("Of(%d) is %v, want %v", c.n, got, c.want)
		}
	}
}

func TestInt(t *testing.T) {
	for _, c := range []struct {
		a    api.Big
		want int
	}{
		{api.Big{}, 0}, {digits(0, []int{}...), 0}, {digits(-1, 7), -7}, {digits(1, 3, 5, 7), 3 + 5<<20 + 7<<40},
		{digits(1, top, top, top, 7), math.MaxInt}, {digits(1, top-1, top, top, 7), math.MaxInt - 1}, {digits(-1, 0, 0, 0, 8), math.MinInt}, {digits(-1, top, top, top, 7), math.MinInt + 1},
	} {
		if n, is := big.Int(c.a); n != c.want || !is {
			t.Errorf("Int(%v) is %d, %t, want %d", c.a, n, is, c.want)
		}
	}
	for _, a := range append(wrongs(),
		digits(1, 0, 0, 0, 8), digits(1, 1, 0, 0, 8), digits(-1, 1, 0, 0, 8), digits(-1, 0, 1, 0, 8), digits(1, 0, 0, 0, 9), digits(-1, 0, 0, 0, 9), digits(1, 0, 0, 0, 15), digits(-1, top, top, top, 15),
		digits(1, 0, 0, 0, 16), digits(-1, 0, 0, 0, 16), digits(1, 5, 0, 0, 16), digits(1, 5, 0, 0, 32), digits(1, 5, 0, 0, top), digits(1, 5, 0, 0, 1<<19), digits(1, 0, 0, 0, 0, 1), digits(-1, 5, 0, 0, 0, 1),
		digits(1, 7, 0, 0, 0, 1<<19), digits(1, 0, 0, 0, 0, 0, 0, 1), digits(-1, 1, 2, 3, 4, 5, 6, 7),
	) {
		if n, is := big.Int(a); n != 0 || is {
			t.Errorf("Int(%v) is %d, %t, want 0, false", a, n, is)
		}
	}
}

func TestCompare(t *testing.T) {
	up := []api.Big{
		digits(-1, 0, 0, 0, 0, 1), digits(-1, top, top, top, top), digits(-1, top-1, top, top, top), digits(-1, 0, 0, 0, 2), digits(-1, top, top, top, 1), digits(-1, 2, 1), digits(-1, 1, 1), digits(-1, 0, 1), digits(-1, top), digits(-1, 2), digits(-1, 1),
		{},
		digits(1, 1), digits(1, 2), digits(1, top), digits(1, 0, 1), digits(1, 1, 1), digits(1, 2, 1), digits(1, 1, 2), digits(1, 9, 9, 1), digits(1, 1, 1, 2), digits(1, 0, 2, 2), digits(1, 0, 0, 0, 1), digits(1, top-1, top, top, top), digits(1, top, top, top, top), digits(1, 0, 0, 0, 0, 1),
	}
	for i, a := range up {
		for k, b := range up {
			want := 0
			if i != k {
				want = 1 - 2*bit(i < k)
			}
			if got := big.Compare(a, b); got != want {
				t.Errorf("Compare(%v, %v) is %d, want %d", a, b, got, want)
			}
		}
		if big.Compare(a, api.Big{Sign: a.Sign, Digits: slices.Clone(a.Digits)}) != 0 {
			t.Errorf("%v is not equal to itself", a)
		}
		for _, w := range wrongs() {
			if big.Compare(a, w) != 0 || big.Compare(w, a) != 0 || big.Compare(w, w) != 0 {
				t.Errorf("Compare of %v and %v is not 0", a, w)
			}
		}
	}
	for _, v := range wrongs() {
		for _, w := range wrongs() {
			if big.Compare(v, w) != 0 {
				t.Errorf("Compare of %v and %v is not 0", v, w)
			}
		}
	}
}

func bit(is bool) int {
	if is {
		return 1
	}
	return 0
}

func TestSame(t *testing.T) {
	all := append(rights(), wrongs()...)
	for _, a := range all {
		for _, b := range all {
			want := a.Sign == b.Sign && slices.Equal(a.Digits, b.Digits)
			c := api.Big{Sign: b.Sign, Digits: slices.Clone(b.Digits)}
			if big.Same(a, b) != want || big.Same(a, c) != want {
				t.Errorf("Same(%v, %v) is not %t", a, b, want)
			}
		}
	}
	for _, a := range []api.Big{digits(1, 1, 2, 3), digits(0, 1, 2, 3), digits(5, -1, 2, 0)} {
		for _, b := range []api.Big{digits(-1, a.Digits...), digits(a.Sign, 9, 2, 3), digits(a.Sign, a.Digits[0], 9, a.Digits[2]), digits(a.Sign, a.Digits[0], 2, 9), digits(a.Sign, a.Digits[:2]...), digits(a.Sign, append(slices.Clone(a.Digits), 0)...), digits(a.Sign)} {
			if big.Same(a, b) || big.Same(b, a) {
				t.Errorf("%v and %v are the same", a, b)
			}
		}
	}
	if !big.Same(digits(0), api.Big{Digits: []int{}}) || !big.Same(digits(1), api.Big{Sign: 1, Digits: []int{}}) {
		t.Error("no digits are not the same as no digits")
	}
}

func TestNeg(t *testing.T) {
	for _, a := range rights() {
		if got, want := big.Neg(a), (api.Big{Sign: -a.Sign, Digits: a.Digits}); !equal(got, want) {
			t.Errorf("Neg(%v) is %v", a, got)
		}
	}
	for _, a := range wrongs() {
		if got := big.Neg(a); !equal(got, api.Big{}) {
			t.Errorf("Neg(%v) is %v, want zero", a, got)
		}
	}
}

// P4.2

// binary are the functions of two integers with one result.
func binary() map[string]func(a, b api.Big) (api.Big, api.Errno) {
	return map[string]func(a, b api.Big) (api.Big, api.Errno){
		"Add": big.Add, "Sub": big.Sub, "Mul": big.Mul, "Gcd": big.Gcd,
		"Div": func(a, b api.Big) (api.Big, api.Errno) {
			q, _, e := big.Div(a, b)
			return q, e
		},
		"Div, the remainder": func(a, b api.Big) (api.Big, api.Errno) {
			_, r, e := big.Div(a, b)
			return r, e
		},
	}
}

func TestArgumentsThatAreNotRight(t *testing.T) {
	for name, f := range binary() {
		for _, w := range wrongs() {
			for _, a := range append(rights(), w, digits(7, -7)) {
				for _, pair := range [][2]api.Big{{a, w}, {w, a}} {
					if c, e := f(pair[0], pair[1]); e != api.ErrArg || !equal(c, api.Big{}) {
						t.Errorf("%s(%v, %v) is %v, error %d, want ErrArg", name, pair[0], pair[1], c, e)
					}
				}
			}
		}
	}
}

func TestDivideByZero(t *testing.T) {
	for _, a := range rights() {
		for _, zero := range []api.Big{{}, {Digits: []int{}}} {
			if q, r, e := big.Div(a, zero); e != api.ErrDivide || !equal(q, api.Big{}) || !equal(r, api.Big{}) {
				t.Errorf("Div(%v, 0) is %v, %v, error %d, want ErrDivide", a, q, r, e)
			}
		}
	}
}

func TestCarries(t *testing.T) {
	for n := 1; n < 30; n++ {
		tops := digits(1, slices.Repeat([]int{top}, n)...)
		power := digits(1, append(make([]int, n), 1)...)
		one := digits(1, 1)
		s, e := big.Add(tops, one)
		holds(t, "a carry through all digits", s, e, power)
		s, e = big.Add(one, tops)
		holds(t, "a carry through all digits", s, e, power)
		s, e = big.Sub(big.Neg(tops), one)
		holds(t, "a carry through all digits", s, e, big.Neg(power))
		s, e = big.Sub(power, one)
		holds(t, "a borrow through all digits", s, e, tops)
		s, e = big.Add(power, big.Neg(one))
		holds(t, "a borrow through all digits", s, e, tops)
		s, e = big.Sub(one, power)
		holds(t, "a borrow through all digits", s, e, big.Neg(tops))
		s, e = big.Sub(power, tops)
		holds(t, "a difference that loses most digits", s, e, one)
		s, e = big.Sub(tops, power)
		holds(t, "a difference that loses most digits", s, e, big.Neg(one))
		s, e = big.Add(tops, tops)
		holds(t, "twice the greatest digits", s, e, digits(1, append(append([]int{top - 1}, slices.Repeat([]int{top}, n-1)...), 1)...))
		for _, a := range []api.Big{tops, power, big.Neg(tops), big.Neg(power)} {
			s, e = big.Sub(a, a)
			holds(t, "a difference of the same", s, e, api.Big{})
			s, e = big.Add(a, big.Neg(a))
			holds(t, "a sum of opposites", s, e, api.Big{})
			s, e = big.Add(a, api.Big{})
			holds(t, "a sum with 0", s, e, a)
			s, e = big.Add(api.Big{}, a)
			holds(t, "a sum with 0", s, e, a)
			s, e = big.Sub(a, api.Big{})
			holds(t, "a difference with 0", s, e, a)
			s, e = big.Sub(api.Big{}, a)
			holds(t, "a difference from 0", s, e, big.Neg(a))
		}
		// (2^k - 1)^2 = 2^2k - 2^(k+1) + 1
		s, e = big.Mul(tops, tops)
		holds(t, "a square", s, e, digits(1, slices.Concat([]int{1}, make([]int, n-1), []int{top - 1}, slices.Repeat([]int{top}, n-1))...))
	}
}

func holds(t *testing.T, what string, got api.Big, e api.Errno, want api.Big) {
	t.Helper()
	if e != api.OK || !equal(got, want) {
		t.Errorf("%s: %v, error %d, want %v", what, got, e, want)
	}
}

func TestDifferencesOfOneDigit(t *testing.T) {
	// Numbers that differ in one digit alone.
	for n := 1; n < 12; n++ {
		for i := range n {
			a, b := slices.Repeat([]int{77}, n), slices.Repeat([]int{77}, n)
			a[i] = 80
			want := append(make([]int, i), 3)
			d, e := big.Sub(digits(1, a...), digits(1, b...))
			holds(t, "one digit", d, e, digits(1, want...))
			d, e = big.Sub(digits(1, b...), digits(1, a...))
			holds(t, "one digit", d, e, digits(-1, want...))
			d, e = big.Add(digits(-1, a...), digits(1, b...))
			holds(t, "one digit", d, e, digits(-1, want...))
		}
	}
}

func TestGcd(t *testing.T) {
	for _, c := range []struct{ a, b, want string }{
		{"0", "0", "0"}, {"0", "1", "1"}, {"0", "-1", "1"}, {"0", "-5", "5"}, {"7", "0", "7"}, {"-7", "0", "7"}, {"1", "1", "1"}, {"-1", "-1", "1"}, {"12", "18", "6"}, {"-12", "18", "6"}, {"12", "-18", "6"}, {"-12", "-18", "6"},
		{"0", "-123456789012345678901234567890", "123456789012345678901234567890"}, {"123456789012345678901234567890", "0", "123456789012345678901234567890"},
		{"-123456789012345678901234567890", "123456789012345678901234567890", "123456789012345678901234567890"},
		{"340282366920938463463374607431768211456", "18446744073709551616", "18446744073709551616"},
		{"-340282366920938463463374607431768211456", "-96", "32"},
		{"170141183460469231731687303715884105727", "170141183460469231731687303715884105728", "1"},
		{"100000000000000000000000000000000000000000", "2", "2"},
		{"9223372036854775808", "-9223372036854775808", "9223372036854775808"},
	} {
		a, b := number(t, c.a), number(t, c.b)
		g, e := big.Gcd(of(a), of(b))
		holds(t, "Gcd of "+c.a+" and "+c.b, g, e, of(number(t, c.want)))
	}
}

// P4.3

func TestText(t *testing.T) {
	for _, s := range []string{
		"0", "1", "-1", "9", "10", "-10", "1048575", "1048576", "-1048577", "9223372036854775807", "-9223372036854775808", "9223372036854775808", "18446744073709551616",
		"1000000000000000000000000000000000000000000000000000000000000", "-1000000000000000000000000000000000000000000000000000000000001", "100000000000000000000000000000100000000000000000000000000001",
	} {
		if got := big.Text(of(number(t, s))); got != s {
			t.Errorf("Text of %s is %s", s, got)
		}
		a, e := big.Read(s)
		holds(t, "Read("+s+")", a, e, of(number(t, s)))
	}
	if got := big.Text(api.Big{Digits: []int{}}); got != "0" {
		t.Errorf("Text of 0 is %q", got)
	}
	for _, a := range wrongs() {
		if got := big.Text(a); got != "" {
			t.Errorf("Text(%v) is %q, want the empty string", a, got)
		}
	}
}

func TestTextsOfPowers(t *testing.T) {
	// Zeros and nines at each place, for the digits may be written and read in groups.
	for n := range 150 {
		zeros := strings.Repeat("0", n)
		texts := []string{"1" + zeros, "-1" + zeros, "7" + zeros + "1", "-12" + zeros + "34" + zeros, "9" + strings.Repeat("9", n), strings.Repeat("10", n+1), strings.Repeat("1234567890", n/10+1), "1" + zeros + "9" + zeros}
		for _, s := range texts {
			want := of(number(t, s))
			if got := big.Text(want); got != s {
				t.Errorf("Text of %s is %s", s, got)
			}
			a, e := big.Read(s)
			holds(t, "Read("+s+")", a, e, want)
		}
	}
}

func TestReadShortTexts(t *testing.T) {
	form := regexp.MustCompile("^(0|-?[1-9][0-9]*)$")
	texts := []string{""}
	for begin := 0; len(texts[begin]) < 5; begin++ {
		s := texts[begin]
		if a, e := big.Read(s); form.MatchString(s) {
			n, _ := strconv.Atoi(s)
			isInt(t, "Read("+s+")", a, e, n)
		} else {
			refuses(t, s)
		}
		for _, b := range "0179-+ a._" {
			texts = append(texts, s+string(b))
		}
	}
}

func TestReadRefusesEachOtherByte(t *testing.T) {
	for _, s := range []string{"7", "-7", "12345678", "-1234567890123456789012345678901234567890", strings.Repeat("9", 70)} {
		for i := range len(s) {
			for b := range 256 {
				if '0' <= b && b <= '9' || i == 0 && b == '-' && len(s) > 1 {
					continue
				}
				refuses(t, s[:i]+string([]byte{byte(b)})+s[i+1:])
			}
		}
		for _, harm := range []string{" ", "\n", "\t", "\x00", "+", "_", ",", ".", "e1", "x", "-", "/1", "\u0663", "\uff11", "\xff"} {
			refuses(t, s+harm)
			refuses(t, harm+harm+s)
			if harm != "-" || s[0] == '-' {
				refuses(t, harm+s)
			}
		}
	}
}

func TestReadRefusesLeadingZeros(t *testing.T) {
	for n := 1; n < 60; n++ {
		zeros := strings.Repeat("0", n)
		for _, s := range []string{zeros + "0", "-" + zeros, "-" + zeros + "0", zeros + "1", "-" + zeros + "1", zeros + "12345678901234567890123", "-" + zeros + "99999999999999999999999"} {
			refuses(t, s)
		}
	}
	for _, s := range []string{"-", "--", "--1", "-+1", "+-1", "+1", "+0", "+", " ", " 1", "1 ", "- 1", "-1-", "1-1", "0x10", "0b1", "0o7", "1e3", "1_000", "1,000", "1.0", "1/1", "inf", "NaN", "\u2212" + "5", "\u0661", "٣"} {
		refuses(t, s)
	}
}

// P4.4

// spare is an argument whose slice has elements beyond its length; they must be neither read nor written.
func spare(x *gobig.Int) api.Big {
	a := of(x)
	n := len(a.Digits)
	return api.Big{Sign: a.Sign, Digits: append(a.Digits, 1, -5, top+1, 3, 0)[:n]}
}

// untouched reports whether an argument made by spare is as it was.
func untouched(a api.Big, x *gobig.Int) bool {
	n := len(a.Digits)
	return equal(a, of(x)) && slices.Equal(a.Digits[n:n+5], []int{1, -5, top + 1, 3, 0})
}

func sizes(t *testing.T) []*gobig.Int {
	t.Helper()
	var l []*gobig.Int
	for _, s := range []string{
		"0", "1", "2", "7", "1048575", "1048576", "3000000000", "1152921504606846975", "1152921504606846976", "9223372036854775808",
		"340282366920938463463374607431768211455", "340282366920938463463374607431768211456", "123456789012345678901234567890123456789012345678901234567890", "246913578024691357802469135780246913578024691357802469135780",
	} {
		l = append(l, number(t, s), new(gobig.Int).Neg(number(t, s)))
	}
	return l
}

// spoil changes the digits of a result, and appends to them.
func spoil(l []int) {
	for i := range l {
		l[i] = -99
	}
	for range 3 {
		l = append(l, -98)
	}
}

func TestMemoryOfFunctionsOfTwo(t *testing.T) {
	for name, f := range binary() {
		for _, x := range sizes(t) {
			for _, y := range sizes(t) {
				a, b := spare(x), spare(y)
				c, e := f(a, b)
				want := api.Big{Sign: c.Sign, Digits: slices.Clone(c.Digits)}
				spoil(c.Digits)
				if !untouched(a, x) || !untouched(b, y) {
					t.Fatalf("%s(%s, %s) changes an argument, or shares memory with it", name, x, y)
				}
				if again, f := f(a, b); !equal(again, want) || f != e {
					t.Fatalf("%s(%s, %s) is %v, and then %v", name, x, y, want, again)
				}
				again, _ := f(a, b)
				spoil(a.Digits)
				spoil(b.Digits)
				if !equal(again, want) {
					t.Fatalf("%s(%s, %s) shares memory with an argument", name, x, y)
				}
			}
		}
	}
}

func TestMemoryOfTheSameArgumentTwice(t *testing.T) {
	for name, f := range binary() {
		for _, x := range sizes(t) {
			a := spare(x)
			c, e := f(a, a)
			other, g := f(spare(x), spare(x))
			if !equal(c, other) || e != g {
				t.Errorf("%s of %s and the same slice is %v, error %d, want %v, error %d", name, x, c, e, other, g)
			}
			spoil(c.Digits)
			if !untouched(a, x) {
				t.Errorf("%s of %s and the same slice changes it", name, x)
			}
		}
	}
}

func TestMemoryOfBothResultsOfDiv(t *testing.T) {
	for _, x := range sizes(t) {
		for _, y := range sizes(t) {
			if y.Sign() == 0 {
				continue
			}
			q, r, _ := big.Div(of(x), of(y))
			remainder := api.Big{Sign: r.Sign, Digits: slices.Clone(r.Digits)}
			quotient := api.Big{Sign: q.Sign, Digits: slices.Clone(q.Digits)}
			spoil(q.Digits)
			if !equal(r, remainder) {
				t.Errorf("Div(%s, %s): a change of the quotient changes the remainder", x, y)
			}
			q, r, _ = big.Div(of(x), of(y))
			spoil(r.Digits)
			if !equal(q, quotient) {
				t.Errorf("Div(%s, %s): a change of the remainder changes the quotient", x, y)
			}
		}
	}
}

func TestMemoryOfFunctionsOfOne(t *testing.T) {
	for _, x := range sizes(t) {
		a := spare(x)
		n, is := big.Int(a)
		text := big.Text(a)
		right := big.Right(a)
		opposite := big.Neg(a)
		spoil(opposite.Digits)
		if !untouched(a, x) {
			t.Errorf("Neg of %s shares memory with its argument", x)
		}
		if m, was := big.Int(a); m != n || was != is || big.Text(a) != text || big.Right(a) != right || !equal(big.Neg(a), of(new(gobig.Int).Neg(x))) {
			t.Errorf("a second call with %s has another result", x)
		}
		read, _ := big.Read(text)
		spoil(read.Digits)
		read, e := big.Read(text)
		holds(t, "Read, a second time", read, e, of(x))
		if !is {
			continue
		}
		made := big.Of(n)
		spoil(made.Digits)
		holds(t, "Of, a second time", big.Of(n), api.OK, of(x))
	}
}

func TestElementsBeyondTheLength(t *testing.T) {
	// Digits that would carry, make the number longer, or make it not right.
	for _, x := range sizes(t) {
		for _, y := range sizes(t) {
			a, b := spare(x), spare(y)
			if big.Compare(a, b) != x.Cmp(y) || big.Same(a, b) != (x.Cmp(y) == 0) || big.Text(a) != x.String() || !big.Right(a) {
				t.Errorf("elements beyond the length of %s or %s are read", x, y)
			}
			if !untouched(a, x) || !untouched(b, y) {
				t.Errorf("%s or %s is changed", x, y)
			}
		}
	}
}

func TestWrongArgumentsAreNotChanged(t *testing.T) {
	for i, w := range wrongs() {
		a := api.Big{Sign: w.Sign, Digits: slices.Clone(w.Digits)}
		for _, f := range binary() {
			f(a, big.Of(5))
			f(big.Of(5), a)
			f(a, a)
		}
		big.Neg(a)
		big.Text(a)
		big.Int(a)
		if !equal(a, wrongs()[i]) {
			t.Errorf("%v becomes %v", w, a)
		}
	}
}
