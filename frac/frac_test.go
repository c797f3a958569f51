package frac_test

import (
	"math"
	gobig "math/big"
	"regexp"
	"slices"
	"strconv"
	"strings"
	"testing"

	"kerbside/api"
	"kerbside/big"
	"kerbside/frac"
)

const top = 1048575 // the greatest digit

func digits(sign int, l ...int) api.Big { return api.Big{Sign: sign, Digits: l} }

func parts(p, q api.Big) api.Frac { return api.Frac{P: p, Q: q} }

func ints(p, q int) api.Frac {
	return parts(ofInt(gobig.NewInt(int64(p))), ofInt(gobig.NewInt(int64(q))))
}

// wrongBigs are big integers that are not right.
func wrongBigs() []api.Big {
	return []api.Big{
		digits(2, 1), digits(-2, 1), digits(2, 2), digits(3, 5, 6), digits(math.MinInt, 1), digits(1<<32+1, 1),
		digits(1, -1), digits(1, -1, 1), digits(1, 1, -1), digits(-1, -1), digits(1, math.MinInt, 1), digits(1, 1, 1, 1, 1, 1, -1, 1),
		digits(1, top+1), digits(-1, top+1), digits(1, 1, top+1), digits(1, math.MaxInt), digits(1, 1<<32, 1), digits(1, 1, 1, 1, 1, 1, top+1, 1),
		digits(1, 0), digits(-1, 0), digits(1, 1, 0), digits(-1, 1, 0), digits(1, 1, 2, 3, 4, 0), digits(1, 1, 0, 0, 0, 0, 0),
		digits(0, 1), digits(0, 0), digits(0, top, 7), digits(1), digits(-1), {Sign: 1, Digits: []int{}}, digits(2),
	}
}

// wrongs are fractions that are not right.
func wrongs() []api.Frac {
	one, none, power := digits(1, 1), api.Big{}, digits(1, 0, 0, 0, 0, 0, 1)
	l := []api.Frac{
		{}, {P: one}, {P: digits(-1, 1)}, {P: power}, {P: digits(0, []int{}...), Q: digits(0, []int{}...)},
		parts(one, digits(-1, 1)), parts(digits(-1, 1), digits(-1, 1)), parts(none, digits(-1, 1)), parts(digits(-1, 3), digits(-1, 2)), parts(one, digits(-1, 0, 0, 0, 0, 0, 1)), parts(power, digits(-1, 3)), parts(digits(1, 7), digits(-1, 0, 0, 0, 8)),
		parts(none, digits(1, 2)), parts(none, digits(1, top)), parts(none, digits(1, 0, 1)), parts(none, power), parts(none, digits(1, 0, 0, 0, 8)),
		parts(digits(1, 2), digits(1, 2)), parts(digits(1, 2), digits(1, 4)), parts(digits(-1, 2), digits(1, 4)), parts(digits(1, 6), digits(1, 9)), parts(digits(-1, 9), digits(1, 3)), parts(digits(1, 35), digits(1, 1001)),
		parts(power, digits(1, 2)), parts(digits(1, 2), power), parts(power, power), parts(digits(-1, 0, 0, 0, 0, 0, 1), power), parts(digits(1, 3, 0, 0, 0, 0, 0, 0, 0, 3), digits(1, 9)), parts(digits(1, 5, 0, 0, 0, 10), digits(1, 25, 0, 0, 0, 0, 5)),
		parts(digits(-1, 0, 0, 0, 8), digits(1, 0, 0, 0, 8)), parts(digits(-1, 0, 0, 0, 8), digits(1, 2)), parts(digits(1, top, top, top, 7), digits(1, 7)), parts(digits(1, 7), digits(1, top, top, top, 7)), parts(digits(1, top, top, top, 7), digits(1, top, top, top, 7)),
	}
	for _, w := range wrongBigs() {
		l = append(l, parts(w, one), parts(one, w), parts(w, w), parts(none, w), parts(w, none), parts(w, power), parts(power, w), parts(w, digits(-1, 1)))
	}
	return l
}

// rights are fractions that are right, of several sizes.
func rights() []api.Frac {
	l := []api.Frac{{P: api.Big{Digits: []int{}}, Q: digits(1, 1)}}
	for _, s := range []string{
		"0/1", "1/1", "2/1", "7/1", "1/2", "1/3", "2/3", "3/2", "355/113", "1048575/1048576", "1048576/1048575", "2147483647/2147483648", "1/2147483647", "4611686018427387904/1", "1/4611686018427387904",
		"9223372036854775807/9223372036854775806", "9223372036854775808/9223372036854775807", "1/9223372036854775808", "340282366920938463463374607431768211456/1", "1/340282366920938463463374607431768211456",
		"123456789012345678901234567890123456789012345678901234567891/1000000000000000000000000000000000000000000000", "1000000000000000000000000000000000000000000000/123456789012345678901234567890123456789012345678901234567891",
	} {
		x, _ := new(gobig.Rat).SetString(s)
		l = append(l, of(x), of(new(gobig.Rat).Neg(x)))
	}
	return l
}

// The chapter's examples.

func TestExamples(t *testing.T) {
	for _, c := range []struct {
		p, q int
		text string
		e    api.Errno
	}{{6, -4, "-3/2", api.OK}, {0, 7, "0/1", api.OK}, {1, 0, "", api.ErrDivide}} {
		if f, e := frac.Of(c.p, c.q); frac.Text(f) != c.text || e != c.e {
			t.Errorf("Of(%d, %d) is %q, error %d", c.p, c.q, frac.Text(f), e)
		}
	}
	half, third := ints(1, 2), ints(1, 3)
	for name, want := range map[string]string{"Add": "5/6", "Sub": "1/6", "Mul": "1/6", "Div": "3/2"} {
		f, e := four()[name](half, third)
		holds(t, name+" of 1/2 and 1/3", f, e, want)
	}
	a, b := ints(-1, 2), ints(-1, 3)
	if got := frac.Compare(a, b); got != -1 {
		t.Errorf("Compare of -1/2 and -1/3 is %d", got)
	}
	if got := frac.Floor(ints(-3, 2)); !equalBig(got, digits(-1, 2)) {
		t.Errorf("Floor of -3/2 is %v", got)
	}
	holds(t, "Neg of -1/2", frac.Neg(a), api.OK, "1/2")
	if got := frac.Sign(frac.Neg(a)); got != 1 {
		t.Errorf("Sign of 1/2 is %d", got)
	}
	f, e := frac.Min(a, b)
	holds(t, "Min of -1/2 and -1/3", f, e, "-1/2")
	f, e = frac.Max(a, b)
	holds(t, "Max of -1/2 and -1/3", f, e, "-1/3")
	refuses(t, "2/4")
	f, e = frac.Read("-3/2")
	holds(t, "Read(-3/2)", f, e, "-3/2")
}

// holds checks a result whose text is want.
func holds(t *testing.T, what string, got api.Frac, e api.Errno, want string) {
	t.Helper()
	if e != api.OK || !equal(got, of(ratio(t, want))) {
		t.Errorf("%s is %v, error %d, want %s", what, got, e, want)
	}
}

// fails checks a result with an error.
func fails(t *testing.T, what string, got api.Frac, e, want api.Errno) {
	t.Helper()
	if e != want || !equal(got, api.Frac{}) {
		t.Errorf("%s is %v, error %d, want error %d", what, got, e, want)
	}
}

func refuses(t *testing.T, s string) {
	t.Helper()
	f, e := frac.Read(s)
	fails(t, "Read("+strconv.Quote(s)+")", f, e, api.ErrForm)
}

// P5.1

func TestRight(t *testing.T) {
	for _, f := range rights() {
		if !frac.Right(f) {
			t.Errorf("%v is right", f)
		}
	}
	for _, f := range wrongs() {
		if frac.Right(f) {
			t.Errorf("%v is not right", f)
		}
	}
}

// divisor returns the greatest common divisor, by trying.
func divisor(p, q int) int {
	g := 0
	for d := 1; d <= max(p, -p, q, -q); d++ {
		if p%d == 0 && q%d == 0 {
			g = d
		}
	}
	return g
}

func TestRightOfSmallParts(t *testing.T) {
	for p := -60; p <= 60; p++ {
		for q := -60; q <= 60; q++ {
			if want := q > 0 && divisor(p, q) == 1; frac.Right(ints(p, q)) != want {
				t.Errorf("Right of %d over %d is %t", p, q, !want)
			}
		}
	}
}

func TestRightFindsEachDivisor(t *testing.T) {
	for _, s := range []string{"1/1", "-2/3", "3/2", "-1048575/1048576", "9223372036854775807/9223372036854775806", "-123456789012345678901234567890123456789/10000000000000000000000000000000000000000"} {
		x := ratio(t, s)
		for _, d := range []string{"2", "3", "5", "1048573", "1048576", "2147483648", "4611686018427387904", "9223372036854775783", "18446744073709551616", "1267650600228229401496703205653"} {
			by := number(t, d)
			f := parts(ofInt(by.Mul(by, x.Num())), ofInt(new(gobig.Int).Mul(number(t, d), x.Denom())))
			if !frac.Right(of(x)) || frac.Right(f) {
				t.Errorf("Right of %s, and with both parts times %s, is wrong", s, d)
			}
		}
	}
}

func TestSame(t *testing.T) {
	all := append(rights(), wrongs()...)
	for _, a := range all {
		for _, b := range all {
			c := parts(api.Big{Sign: b.P.Sign, Digits: slices.Clone(b.P.Digits)}, api.Big{Sign: b.Q.Sign, Digits: slices.Clone(b.Q.Digits)})
			if want := equal(a, b); frac.Same(a, b) != want || frac.Same(a, c) != want {
				t.Errorf("Same(%v, %v) is not %t", a, b, want)
			}
		}
	}
	a := parts(digits(1, 1, 2), digits(1, 3, 4))
	for _, b := range []api.Frac{
		parts(digits(-1, 1, 2), digits(1, 3, 4)), parts(digits(1, 1, 2), digits(-1, 3, 4)), parts(digits(1, 2, 2), digits(1, 3, 4)), parts(digits(1, 1, 2), digits(1, 3, 5)),
		parts(digits(1, 1), digits(1, 3, 4)), parts(digits(1, 1, 2), digits(1, 3, 4, 0)), parts(digits(1, 3, 4), digits(1, 1, 2)), {P: a.P}, {Q: a.Q},
	} {
		if frac.Same(a, b) || frac.Same(b, a) {
			t.Errorf("%v and %v are the same", a, b)
		}
	}
	if frac.Same(ints(1, 2), ints(2, 4)) || !frac.Same(ints(2, 4), ints(2, 4)) || !frac.Same(api.Frac{}, api.Frac{}) {
		t.Error("Same compares values, not parts")
	}
	if !frac.Same(api.Frac{}, parts(api.Big{Digits: []int{}}, api.Big{Digits: []int{}})) {
		t.Error("no digits are not the same as no digits")
	}
}

func TestNewRefuses(t *testing.T) {
	bigs := []api.Big{{}, {Digits: []int{}}, digits(1, 1), digits(-1, 1), digits(1, 6), digits(-1, 0, 0, 0, 0, 0, 1), digits(1, top, top, top, top)}
	for _, w := range wrongBigs() {
		for _, a := range append(bigs, w, digits(7, -7)) {
			f, e := frac.New(a, w)
			fails(t, "New with a denominator that is not right", f, e, api.ErrArg)
			f, e = frac.New(w, a)
			fails(t, "New with a numerator that is not right", f, e, api.ErrArg)
		}
	}
	for _, p := range bigs {
		for _, zero := range []api.Big{{}, {Digits: []int{}}} {
			f, e := frac.New(p, zero)
			fails(t, "New with the denominator 0", f, e, api.ErrDivide)
		}
	}
}

func TestNewOfMultiples(t *testing.T) {
	for _, s := range []string{"0/1", "1/1", "-1/1", "2/3", "-3/2", "-1048575/1048576", "9223372036854775807/9223372036854775806", "1/9223372036854775808", "-123456789012345678901234567890123456789/10000000000000000000000000000000000000000", "10000000000000000000000000000000000000000/3"} {
		x := ratio(t, s)
		for _, d := range []string{"1", "-1", "2", "-2", "3", "1048576", "-2147483648", "4611686018427387904", "-9223372036854775808", "1267650600228229401496703205653", "-340282366920938463463374607431768211456"} {
			by := number(t, d)
			f, e := frac.New(ofInt(new(gobig.Int).Mul(by, x.Num())), ofInt(new(gobig.Int).Mul(by, x.Denom())))
			holds(t, "New of "+s+" times "+d, f, e, s)
		}
	}
}

func TestOfSmallInts(t *testing.T) {
	for p := -40; p <= 40; p++ {
		for q := -40; q <= 40; q++ {
			f, e := frac.Of(p, q)
			if q == 0 {
				fails(t, "Of with the denominator 0", f, e, api.ErrDivide)
				continue
			}
			g := divisor(p, q)
			if q < 0 {
				g = -g
			}
			if e != api.OK || !equal(f, ints(p/g, q/g)) {
				t.Errorf("Of(%d, %d) is %v, error %d", p, q, f, e)
			}
		}
	}
}

func TestOfGreatInts(t *testing.T) {
	for _, c := range []struct {
		p, q int
		want string
	}{
		{math.MinInt, 1, "-9223372036854775808/1"}, {math.MinInt, -1, "9223372036854775808/1"}, {1, math.MinInt, "-1/9223372036854775808"}, {-1, math.MinInt, "1/9223372036854775808"}, {math.MinInt, math.MinInt, "1/1"}, {0, math.MinInt, "0/1"},
		{math.MinInt, 2, "-4611686018427387904/1"}, {math.MinInt, -6, "4611686018427387904/3"}, {-6, math.MinInt, "3/4611686018427387904"}, {math.MinInt, math.MaxInt, "-9223372036854775808/9223372036854775807"},
		{math.MaxInt, math.MinInt, "-9223372036854775807/9223372036854775808"}, {math.MaxInt, math.MaxInt, "1/1"}, {math.MaxInt, -math.MaxInt, "-1/1"}, {-math.MaxInt, 7, "-1317624576693539401/1"}, {7, -math.MaxInt, "-1/1317624576693539401"}, {math.MaxInt, 1, "9223372036854775807/1"},
		{1 << 62, 1 << 61, "2/1"}, {1 << 40, -1 << 62, "-1/4194304"}, {math.MaxInt - 1, math.MaxInt, "9223372036854775806/9223372036854775807"},
	} {
		f, e := frac.Of(c.p, c.q)
		holds(t, "Of "+strconv.Itoa(c.p)+" and "+strconv.Itoa(c.q), f, e, c.want)
		other, e := frac.New(big.Of(c.p), big.Of(c.q))
		holds(t, "New of "+strconv.Itoa(c.p)+" and "+strconv.Itoa(c.q), other, e, c.want)
	}
	for _, p := range []int{0, 1, -1, math.MinInt, math.MaxInt} {
		f, e := frac.Of(p, 0)
		fails(t, "Of with the denominator 0", f, e, api.ErrDivide)
	}
}

func TestInt(t *testing.T) {
	for _, n := range []int{0, 1, -1, 2, -2, 1000, top, top + 1, -top - 1, 1 << 40, -1 << 60, math.MaxInt, math.MinInt, math.MinInt + 1} {
		holds(t, "Int", frac.Int(n), api.OK, strconv.Itoa(n)+"/1")
	}
}

// P5.2

// four are the functions for the four operations.
func four() map[string]func(a, b api.Frac) (api.Frac, api.Errno) {
	return map[string]func(a, b api.Frac) (api.Frac, api.Errno){"Add": frac.Add, "Sub": frac.Sub, "Mul": frac.Mul, "Div": frac.Div}
}

// binary are the functions of two fractions that return one.
func binary() map[string]func(a, b api.Frac) (api.Frac, api.Errno) {
	all := four()
	all["Min"], all["Max"] = frac.Min, frac.Max
	return all
}

func TestArgumentsThatAreNotRight(t *testing.T) {
	for name, f := range binary() {
		for _, w := range wrongs() {
			for _, a := range append(rights(), w, api.Frac{}, ints(2, 4)) {
				for _, pair := range [][2]api.Frac{{a, w}, {w, a}} {
					if c, e := f(pair[0], pair[1]); e != api.ErrArg || !equal(c, api.Frac{}) {
						t.Errorf("%s(%v, %v) is %v, error %d, want ErrArg", name, pair[0], pair[1], c, e)
					}
				}
			}
		}
	}
}

func TestDivideByZero(t *testing.T) {
	for _, zero := range []api.Frac{ints(0, 1), {P: api.Big{Digits: []int{}}, Q: digits(1, 1)}} {
		for _, a := range rights() {
			f, e := frac.Div(a, zero)
			fails(t, "Div by 0", f, e, api.ErrDivide)
		}
		for _, w := range wrongs() {
			f, e := frac.Div(w, zero)
			fails(t, "Div of what is not right by 0", f, e, api.ErrArg)
		}
	}
}

func TestFourOperations(t *testing.T) {
	for _, c := range []struct{ a, b, sum, difference, product, quotient string }{
		{"-1/2", "1/2", "0/1", "-1/1", "-1/4", "-1/1"}, {"3/4", "1/4", "1/1", "1/2", "3/16", "3/1"}, {"1/6", "1/3", "1/2", "-1/6", "1/18", "1/2"}, {"1/6", "-1/10", "1/15", "4/15", "-1/60", "-5/3"},
		{"5/7", "-5/7", "0/1", "10/7", "-25/49", "-1/1"}, {"2/3", "-3/2", "-5/6", "13/6", "-1/1", "-4/9"}, {"-2/3", "-4/9", "-10/9", "-2/9", "8/27", "3/2"}, {"7/1", "-7/1", "0/1", "14/1", "-49/1", "-1/1"},
		{"0/1", "5/3", "5/3", "-5/3", "0/1", "0/1"}, {"0/1", "-5/3", "-5/3", "5/3", "0/1", "0/1"}, {"-1/1", "-1/3", "-4/3", "-2/3", "1/3", "3/1"}, {"1/1", "1/1", "2/1", "0/1", "1/1", "1/1"},
		{"1048575/1048576", "1/1048576", "1/1", "524287/524288", "1048575/1099511627776", "1048575/1"},
		{"2147483647/2147483648", "-1/2147483648", "1073741823/1073741824", "1/1", "-2147483647/4611686018427387904", "-2147483647/1"},
		{"9223372036854775807/1", "1/1", "9223372036854775808/1", "9223372036854775806/1", "9223372036854775807/1", "9223372036854775807/1"},
		{"-9223372036854775808/1", "-1/1", "-9223372036854775809/1", "-9223372036854775807/1", "9223372036854775808/1", "9223372036854775808/1"},
		{"1/9223372036854775808", "-1/9223372036854775808", "0/1", "1/4611686018427387904", "-1/85070591730234615865843651857942052864", "-1/1"},
		{"1/3000000000000000000000000000000", "1/6000000000000000000000000000000", "1/2000000000000000000000000000000", "1/6000000000000000000000000000000", "1/18000000000000000000000000000000000000000000000000000000000000", "2/1"},
		{"-1000000000000000000000000000000/3", "3/1000000000000000000000000000000", "-999999999999999999999999999999999999999999999999999999999991/3000000000000000000000000000000", "-1000000000000000000000000000000000000000000000000000000000009/3000000000000000000000000000000", "-1/1", "-1000000000000000000000000000000000000000000000000000000000000/9"},
	} {
		a, b := of(ratio(t, c.a)), of(ratio(t, c.b))
		for name, want := range map[string]string{"Add": c.sum, "Sub": c.difference, "Mul": c.product, "Div": c.quotient} {
			f, e := four()[name](a, b)
			holds(t, name+" of "+c.a+" and "+c.b, f, e, want)
		}
	}
}

func TestNeg(t *testing.T) {
	for _, f := range rights() {
		if got := frac.Neg(f); !equal(got, parts(api.Big{Sign: -f.P.Sign, Digits: f.P.Digits}, f.Q)) {
			t.Errorf("Neg(%v) is %v", f, got)
		}
	}
	for _, f := range wrongs() {
		fails(t, "Neg of what is not right", frac.Neg(f), api.OK, api.OK)
	}
}

// P5.3

// ascending are fractions in their order.
func ascending(t *testing.T) []api.Frac {
	t.Helper()
	var l []api.Frac
	for _, s := range []string{
		"-340282366920938463463374607431768211457/1", "-340282366920938463463374607431768211456/1", "-9223372036854775809/1", "-9223372036854775808/1", "-9223372036854775807/1", "-7/3", "-2/1", "-3/2", "-1000000000000000000000000000001/1000000000000000000000000000000", "-1/1", "-1000000000000000000000000000000/1000000000000000000000000000001", "-1/2", "-1/3", "-1/9223372036854775808", "-1/340282366920938463463374607431768211456",
		"0/1",
		"1/340282366920938463463374607431768211457", "1/340282366920938463463374607431768211456", "1/9223372036854775808", "1/9223372036854775807", "1/1000000", "1/3", "3333333333333333333333333/9999999999999999999999998", "2/5", "1/2", "2147483646/2147483647", "2147483647/2147483648", "9223372036854775805/9223372036854775806", "9223372036854775806/9223372036854775807",
		"9223372036854775807/9223372036854775808", "1/1", "9223372036854775808/9223372036854775807", "2147483648/2147483647", "2147483647/2147483646", "3/2", "333/106", "103993/33102", "355/113", "22/7", "1048575/1", "1048576/1", "4611686018427387903/1", "9223372036854775807/1", "18446744073709551615/2", "9223372036854775808/1", "340282366920938463463374607431768211456/1",
	} {
		l = append(l, of(ratio(t, s)))
	}
	return l
}

func TestCompare(t *testing.T) {
	l := ascending(t)
	for i, a := range l {
		for k, b := range l {
			want := 0
			switch {
			case i < k:
				want = -1
			case i > k:
				want = 1
			}
			if got := frac.Compare(a, b); got != want {
				t.Errorf("Compare(%v, %v) is %d, want %d", a, b, got, want)
			}
		}
		if copied := parts(api.Big{Sign: a.P.Sign, Digits: slices.Clone(a.P.Digits)}, api.Big{Sign: a.Q.Sign, Digits: slices.Clone(a.Q.Digits)}); frac.Compare(a, copied) != 0 {
			t.Errorf("%v is not equal to itself", a)
		}
	}
}

func TestCompareWithWhatIsNotRight(t *testing.T) {
	for _, w := range wrongs() {
		for _, a := range append(rights(), wrongs()...) {
			if frac.Compare(a, w) != 0 || frac.Compare(w, a) != 0 {
				t.Errorf("Compare of %v and %v is not 0", a, w)
			}
		}
	}
}

func TestSign(t *testing.T) {
	for i, f := range ascending(t) {
		want := 1
		switch {
		case i < 15:
			want = -1
		case i == 15:
			want = 0
		}
		if got := frac.Sign(f); got != want {
			t.Errorf("Sign(%v) is %d, want %d", f, got, want)
		}
	}
	for _, f := range wrongs() {
		if got := frac.Sign(f); got != 0 {
			t.Errorf("Sign(%v) is %d, want 0", f, got)
		}
	}
}

func TestMinAndMax(t *testing.T) {
	l := ascending(t)
	for i, a := range l {
		for k, b := range l {
			if f, e := frac.Min(a, b); e != api.OK || !equal(f, l[min(i, k)]) {
				t.Errorf("Min(%v, %v) is %v, error %d", a, b, f, e)
			}
			if f, e := frac.Max(a, b); e != api.OK || !equal(f, l[max(i, k)]) {
				t.Errorf("Max(%v, %v) is %v, error %d", a, b, f, e)
			}
		}
	}
}

func TestFloor(t *testing.T) {
	for _, c := range []struct{ f, want string }{
		{"0/1", "0"}, {"1/9", "0"}, {"-1/9", "-1"}, {"8/9", "0"}, {"-8/9", "-1"}, {"1/1", "1"}, {"-1/1", "-1"}, {"10/9", "1"}, {"-10/9", "-2"}, {"3/2", "1"}, {"-3/2", "-2"}, {"7/1", "7"}, {"-7/1", "-7"}, {"-2/1", "-2"}, {"-19/10", "-2"}, {"-21/10", "-3"},
		{"9223372036854775807/2", "4611686018427387903"}, {"-9223372036854775807/2", "-4611686018427387904"}, {"-9223372036854775808/1", "-9223372036854775808"}, {"9223372036854775808/1", "9223372036854775808"}, {"9223372036854775807/9223372036854775808", "0"}, {"-9223372036854775807/9223372036854775808", "-1"},
		{"1/340282366920938463463374607431768211456", "0"}, {"-1/340282366920938463463374607431768211456", "-1"}, {"-340282366920938463463374607431768211456/1", "-340282366920938463463374607431768211456"}, {"340282366920938463463374607431768211456/3", "113427455640312821154458202477256070485"}, {"-340282366920938463463374607431768211456/3", "-113427455640312821154458202477256070486"},
	} {
		if got := frac.Floor(of(ratio(t, c.f))); !equalBig(got, ofInt(number(t, c.want))) {
			t.Errorf("Floor of %s is %v, want %s", c.f, got, c.want)
		}
	}
	for _, f := range wrongs() {
		if got := frac.Floor(f); !equalBig(got, api.Big{}) {
			t.Errorf("Floor(%v) is %v, want 0", f, got)
		}
	}
}

// P5.4

func TestText(t *testing.T) {
	for _, s := range []string{"0/1", "1/1", "-1/1", "10/1", "1/10", "-3/2", "1048576/1048575", "-9223372036854775808/9223372036854775807", "1/9223372036854775808", "1000000000000000000000000000000000000001/1000000000000000000000000000000000000000", "-1/100000000000000000000000000000100000000000000000000000000001"} {
		if got := frac.Text(of(ratio(t, s))); got != s {
			t.Errorf("Text of %s is %q", s, got)
		}
		f, e := frac.Read(s)
		holds(t, "Read("+s+")", f, e, s)
	}
	if got := frac.Text(parts(api.Big{Digits: []int{}}, digits(1, 1))); got != "0/1" {
		t.Errorf("Text of 0 is %q", got)
	}
	for _, f := range wrongs() {
		if got := frac.Text(f); got != "" {
			t.Errorf("Text(%v) is %q, want the empty string", f, got)
		}
	}
}

func TestReadShortTexts(t *testing.T) {
	form := regexp.MustCompile("^(0|-?[1-9][0-9]*)/([1-9][0-9]*)$")
	texts := []string{""}
	for begin := 0; len(texts[begin]) < 6; begin++ {
		s := texts[begin]
		l := form.FindStringSubmatch(s)
		for _, b := range "0126-/+ " {
			texts = append(texts, s+string(b))
		}
		if l == nil {
			refuses(t, s)
			continue
		}
		p, _ := strconv.Atoi(l[1])
		q, _ := strconv.Atoi(l[2])
		if divisor(p, q) != 1 {
			refuses(t, s)
			continue
		}
		f, e := frac.Read(s)
		holds(t, "Read("+s+")", f, e, s)
	}
}

func TestReadRefuses(t *testing.T) {
	for _, s := range []string{
		"", "/", "//", "1", "-1", "0", "1/", "/1", "-/1", "1/-", "1//2", "1/2/3", "1/2/", "/1/2", "1/2/1", "0/1/1",
		" 1/2", "1/2 ", "1 /2", "1/ 2", "\t1/2", "1/2\n", "1/2\x00", "+1/2", "1/+2", "--1/2", "1/--2", "1/-2", "-1/-2", "0/-1", "-0/1", "-0/2", "+0/1", "0/0", "1/0", "-1/0", "1/-0", "0/-0",
		"01/2", "1/02", "00/1", "0/01", "-01/2", "0/2", "0/3", "0/1000000000000000000000000000000", "2/2", "2/4", "-2/4", "6/9", "4/2", "-9/3", "1.5/2", "1/2.0", "1,5/2", "0x1/2", "1e3/7", "1_0/7", "1\\2", "1:2", "1 2", "1/2/2", "inf/1", "NaN", "\u0661/2", "1\u20442", "\u22121/2",
		"340282366920938463463374607431768211456/2", "2/340282366920938463463374607431768211456", "9223372036854775808/9223372036854775808", "-9223372036854775808/2", "-1000000000000000000000000000000/3000000000000000000000000000000", "3/-1000000000000000000000000000000", "03/1000000000000000000000000000000",
	} {
		refuses(t, s)
	}
}

func TestReadRefusesEachOtherByte(t *testing.T) {
	for _, s := range []string{"7/1", "-7/1", "1/7", "-123456789012345678901234567890/1", "1/123456789012345678901234567890"} {
		slash := strings.Index(s, "/")
		for i := range len(s) {
			for b := range 256 {
				if '0' <= b && b <= '9' || i == slash && b == '/' || i == 0 && b == '-' && slash > 1 {
					continue
				}
				refuses(t, s[:i]+string([]byte{byte(b)})+s[i+1:])
			}
		}
		for _, harm := range []string{" ", "\n", "\x00", "+", "_", ",", ".", "x", "-", "/", "/1", "\uff11", "\xff"} {
			refuses(t, s+harm)
			refuses(t, s[:slash]+harm+s[slash:])
			refuses(t, s[:slash+1]+harm+s[slash+1:])
			refuses(t, harm+harm+s)
		}
		refuses(t, s+s)
		refuses(t, "0"+s)
		refuses(t, s[:slash+1]+"0"+s[slash+1:])
		refuses(t, s[:slash+1]+"-"+s[slash+1:])
		refuses(t, s[:slash])
		refuses(t, s[:slash+1])
		refuses(t, s[slash:])
		refuses(t, s[slash+1:])
	}
}
