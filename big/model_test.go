package big_test

import (
	"math"
	gobig "math/big"
	"math/rand"
	"slices"
	"strings"
	"sync"
	"testing"

	"kerbside/api"
	"kerbside/big"
)

// The model is Go's own package for integers of any size.

// number returns the integer with a text.
func number(t *testing.T, s string) *gobig.Int {
	t.Helper()
	n, is := new(gobig.Int).SetString(s, 10)
	if !is {
		t.Fatalf("%q is no number", s)
	}
	return n
}

// of returns the right big integer with a value, by the definition.
func of(x *gobig.Int) api.Big {
	a := api.Big{Sign: x.Sign()}
	for rest := new(gobig.Int).Abs(x); rest.Sign() > 0; rest.Rsh(rest, 20) {
		low := 0
		for i := range 20 {
			low |= int(rest.Bit(i)) << i
		}
		a.Digits = append(a.Digits, low)
	}
	return a
}

// value returns the value of a big integer, by the definition.
func value(a api.Big) *gobig.Int {
	n := new(gobig.Int)
	for _, d := range slices.Backward(a.Digits) {
		n.Add(n.Lsh(n, 20), gobig.NewInt(int64(d)))
	}
	return n.Mul(n, gobig.NewInt(int64(a.Sign)))
}

func equal(a, b api.Big) bool { return a.Sign == b.Sign && slices.Equal(a.Digits, b.Digits) }

// divided returns the quotient, rounded down, and the remainder.
func divided(x, y *gobig.Int) (q, r *gobig.Int) {
	q, r = new(gobig.Int).QuoRem(x, y, new(gobig.Int))
	if r.Sign() != 0 && r.Sign() != y.Sign() {
		q.Sub(q, gobig.NewInt(1))
		r.Add(r, y)
	}
	return q, r
}

// agrees compares all functions of two integers with the model.
func agrees(t *testing.T, x, y *gobig.Int) {
	t.Helper()
	a, b := of(x), of(y)
	result := func(name string, got api.Big, e api.Errno, want *gobig.Int) {
		t.Helper()
		if e != api.OK || !equal(got, of(want)) {
			t.Fatalf("%s of %s and %s is %s (%v), error %d, want %s", name, x, y, value(got), got, e, want)
		}
	}
	n := new(gobig.Int)
	c, e := big.Add(a, b)
	result("Add", c, e, n.Add(x, y))
	c, e = big.Sub(a, b)
	result("Sub", c, e, n.Sub(x, y))
	c, e = big.Mul(a, b)
	result("Mul", c, e, n.Mul(x, y))
	c, e = big.Gcd(a, b)
	result("Gcd", c, e, n.GCD(nil, nil, x, y))
	result("Neg of the first one", big.Neg(a), api.OK, n.Neg(x))
	if got := big.Compare(a, b); got != x.Cmp(y) {
		t.Fatalf("Compare of %s and %s is %d", x, y, got)
	}
	if got := big.Same(a, b); got != (x.Cmp(y) == 0) {
		t.Fatalf("Same of %s and %s is %t", x, y, got)
	}
	q, r, e := big.Div(a, b)
	if y.Sign() == 0 {
		if e != api.ErrDivide || !equal(q, api.Big{}) || !equal(r, api.Big{}) {
			t.Fatalf("Div of %s and 0 is %v, %v, error %d", x, q, r, e)
		}
		return
	}
	quotient, remainder := divided(x, y)
	result("the quotient", q, e, quotient)
	result("the remainder", r, e, remainder)
}

// agreesAlone compares all functions of one integer with the model.
func agreesAlone(t *testing.T, x *gobig.Int) {
	t.Helper()
	a := of(x)
	if !big.Right(a) {
		t.Fatalf("%s is not right", x)
	}
	if got := big.Text(a); got != x.String() {
		t.Fatalf("Text of %s is %s", x, got)
	}
	if got, e := big.Read(x.String()); e != api.OK || !equal(got, a) {
		t.Fatalf("Read of %s is %v, error %d", x, got, e)
	}
	n, is := big.Int(a)
	if is != x.IsInt64() || is && int64(n) != x.Int64() || !is && n != 0 {
		t.Fatalf("Int of %s is %d, %t", x, n, is)
	}
	if is && !equal(big.Of(n), a) {
		t.Fatalf("Of(%d) is %v", n, big.Of(n))
	}
}

// some returns an integer with up to most digits, many of which are at the ends of their range.
func some(r *rand.Rand, most int) *gobig.Int {
	n := new(gobig.Int)
	ends := []int{0, 0, 1, 2, top, top, top - 1, 1 << 19, 1<<19 - 1}
	kind := r.Intn(3)
	for range r.Intn(most + 1) {
		d := r.Intn(1 << 20)
		if kind == 0 || kind == 1 && r.Intn(2) == 0 {
			d = ends[r.Intn(len(ends))]
		}
		n.Add(n.Lsh(n, 20), gobig.NewInt(int64(d)))
	}
	if r.Intn(2) == 0 {
		n.Neg(n)
	}
	return n
}

func TestSmallInts(t *testing.T) {
	for x := -40; x <= 40; x++ {
		agreesAlone(t, gobig.NewInt(int64(x)))
		for y := -40; y <= 40; y++ {
			agrees(t, gobig.NewInt(int64(x)), gobig.NewInt(int64(y)))
		}
	}
}

func TestAroundPowers(t *testing.T) {
	var l []*gobig.Int
	for _, k := range []uint{19, 20, 21, 30, 31, 32, 39, 40, 41, 59, 60, 61, 62, 63, 64, 65, 79, 80, 81, 99, 100, 120} {
		for d := -1; d <= 1; d++ {
			x := new(gobig.Int).Lsh(gobig.NewInt(1), k)
			x.Add(x, gobig.NewInt(int64(d)))
			l = append(l, x, new(gobig.Int).Neg(x))
		}
	}
	for _, x := range l {
		agreesAlone(t, x)
		for _, y := range l {
			agrees(t, x, y)
		}
	}
}

func TestEachPowerOfTwo(t *testing.T) {
	for k := range uint(300) {
		for d := -2; d <= 2; d++ {
			x := new(gobig.Int).Lsh(gobig.NewInt(1), k)
			x.Add(x, gobig.NewInt(int64(d)))
			agreesAlone(t, x)
			agreesAlone(t, new(gobig.Int).Neg(x))
		}
	}
}

func TestRandomPairs(t *testing.T) {
	r := rand.New(rand.NewSource(4))
	for i := range 12000 {
		most := 4 + i%12
		if i%50 == 0 {
			most = 90
		}
		x, y := some(r, most), some(r, most)
		agrees(t, x, y)
		agreesAlone(t, x)
	}
}

func TestPairsOfUnequalSize(t *testing.T) {
	r := rand.New(rand.NewSource(5))
	for i := range 3000 {
		x, y := some(r, 40), some(r, 1+i%5)
		agrees(t, x, y)
		agrees(t, y, x)
	}
}

// divides checks the division of q times b, plus r.
func divides(t *testing.T, q, b, r *gobig.Int) {
	t.Helper()
	a := new(gobig.Int).Mul(q, b)
	a.Add(a, r)
	gotQ, gotR, e := big.Div(of(a), of(b))
	if e != api.OK || !equal(gotQ, of(q)) || !equal(gotR, of(r)) {
		t.Fatalf("Div of %s and %s is %s, %s, error %d, want %s, %s", a, b, value(gotQ), value(gotR), e, q, r)
	}
}

// withDigits returns all integers with up to most digits that are all from ends.
func withDigits(most int, ends ...int64) []*gobig.Int {
	var l []*gobig.Int
	last := []*gobig.Int{new(gobig.Int)}
	for range most {
		var next []*gobig.Int
		for _, x := range last {
			for _, d := range ends {
				y := new(gobig.Int).Lsh(x, 20)
				if y.Add(y, gobig.NewInt(d)); y.Sign() > 0 {
					next = append(next, y)
				}
			}
			if x.Sign() == 0 {
				next = append(next, x)
			}
		}
		last = next
	}
	seen := map[string]bool{"0": true}
	for _, x := range last {
		if !seen[x.String()] {
			seen[x.String()] = true
			l = append(l, x)
		}
	}
	return l
}

func TestDivisionsWithDigitsAtTheirEnds(t *testing.T) {
	one := gobig.NewInt(1)
	bs := withDigits(4, 0, 1, 1<<19-1, 1<<19, top)
	qs := withDigits(3, 0, 1, 1<<19, top)
	for _, b := range bs {
		less := new(gobig.Int).Sub(b, one)
		for i, q := range qs {
			divides(t, q, b, new(gobig.Int))
			divides(t, q, b, less)
			if i%3 == 0 {
				divides(t, new(gobig.Int).Neg(q), b, less)
				divides(t, q, new(gobig.Int).Neg(b), new(gobig.Int).Neg(less))
				divides(t, new(gobig.Int).Neg(q), new(gobig.Int).Neg(b), new(gobig.Int).Neg(less))
			}
		}
	}
}

func TestFirstGuessesThatAreTooGreat(t *testing.T) {
	for _, c := range []struct{ a, b api.Big }{
		// The divisor's first digits are just 2^19 and 0, what follows is as great as it can be: 2^20 - 1 is too great by 1.
		{digits(1, 0, top-1, 0, 1<<19-1), digits(1, top, 0, 1<<19)},
		// The first digits of both are equal: 2^20 would be the guess.
		{digits(1, top, top-1, 0, 1<<19), digits(1, top, 0, 1<<19)},
		{digits(1, 0, 0, 0, 1<<19), digits(1, top, 0, 1<<19)},
		{digits(1, 0, 0, 1<<19), digits(1, 1, 1<<19)},
		// By the first digit alone the guess is too great by 2.
		{digits(1, 0, top-1, 1<<19-1), digits(1, top, 1<<19)},
		{digits(1, 3, 0, 1<<19), digits(1, 1, 1<<19)},
		{digits(1, 0, 0, 0, 1), digits(1, top, top, 1)},
		{digits(1, 0, 0, 0, 1), digits(1, 1, 1, 1)},
	} {
		x, y := value(c.a), value(c.b)
		for range 20 {
			agrees(t, x, y)
			agrees(t, new(gobig.Int).Neg(x), y)
			agrees(t, x, new(gobig.Int).Neg(y))
			// The same with other positions of the highest bit, and with more digits after it.
			x, y = new(gobig.Int).Lsh(x, 1), new(gobig.Int).Lsh(y, 1)
			agrees(t, new(gobig.Int).Sub(x, gobig.NewInt(1)), y)
		}
	}
	// One less than a multiple of a divisor that is just a bit more than its first two digits say.
	r := rand.New(rand.NewSource(6))
	for i := range 4000 {
		high := new(gobig.Int).Lsh(gobig.NewInt(int64(1<<19+r.Intn(2))), uint(20*(1+i%4)))
		low := new(gobig.Int).Lsh(gobig.NewInt(1), uint(20*(i%4)))
		b := new(gobig.Int).Add(high, low.Sub(low, gobig.NewInt(1)))
		b.Rsh(b, uint(r.Intn(20)))
		if b.Sign() == 0 {
			continue
		}
		q := some(r, 3)
		q.Abs(q)
		divides(t, q, b, new(gobig.Int).Sub(b, gobig.NewInt(1)))
	}
}

func TestDivisionsOfManyDigits(t *testing.T) {
	r := rand.New(rand.NewSource(7))
	for range 500 {
		b, q := some(r, 60), some(r, 60)
		if b.Sign() == 0 {
			continue
		}
		rest := new(gobig.Int).Rem(some(r, 70), b)
		if rest.Sign() != 0 && rest.Sign() != b.Sign() {
			rest.Neg(rest)
		}
		divides(t, q, b, rest)
	}
}

func TestGcdsOfMultiples(t *testing.T) {
	r := rand.New(rand.NewSource(8))
	for i := range 4000 {
		most := 1 + i%15
		g, x, y := some(r, most), some(r, most), some(r, most)
		agrees(t, x.Mul(x, g), y.Mul(y, g))
		agrees(t, x, g)
		near := gobig.NewInt(int64(r.Intn(5) - 2))
		agrees(t, x, near.Add(near, x))
	}
}

func TestGcdsOfLongAlgorithms(t *testing.T) {
	// Of all pairs of its size the Fibonacci numbers take Euclid's algorithm the most steps; quotients that are all great take it few.
	a, b := gobig.NewInt(0), gobig.NewInt(1)
	for range 700 {
		a, b = b, new(gobig.Int).Add(a, b)
		agrees(t, a, b)
		agrees(t, new(gobig.Int).Neg(b), new(gobig.Int).Mul(a, gobig.NewInt(6)))
	}
	r := rand.New(rand.NewSource(9))
	for i := range 60 {
		a, b = gobig.NewInt(0), gobig.NewInt(int64(1+i))
		for range 40 {
			q := gobig.NewInt(int64(1) << r.Intn(1+i))
			a, b = b, q.Add(a, q.Mul(q, b))
			agrees(t, b, a)
		}
	}
}

// P4.4

func TestCallsSideBySide(t *testing.T) {
	var all sync.WaitGroup
	for i := range 4 {
		all.Go(func() {
			r := rand.New(rand.NewSource(int64(i)))
			for range 300 {
				x, y := some(r, 20), some(r, 20)
				if y.Sign() == 0 {
					continue
				}
				q, m, _ := big.Div(of(x), of(y))
				g, _ := big.Gcd(of(x), of(y))
				p, _ := big.Mul(of(x), of(y))
				quotient, remainder := divided(x, y)
				if !equal(q, of(quotient)) || !equal(m, of(remainder)) || !equal(g, of(new(gobig.Int).GCD(nil, nil, x, y))) || big.Text(p) != new(gobig.Int).Mul(x, y).String() {
					t.Errorf("the results for %s and %s depend on other calls", x, y)
				}
			}
		})
	}
	all.Wait()
}

// P4.5, P4.6 and P4.7: the theorems, with the functions of the package alone.

func done(t *testing.T) func(api.Big, api.Errno) api.Big {
	return func(a api.Big, e api.Errno) api.Big {
		t.Helper()
		if e != api.OK || !big.Right(a) {
			t.Fatalf("%v, error %d", a, e)
		}
		return a
	}
}

func same(t *testing.T, law string, a, b api.Big) {
	t.Helper()
	if !big.Same(a, b) || big.Compare(a, b) != 0 {
		t.Fatalf("%s: %v and %v", law, a, b)
	}
}

func TestRing(t *testing.T) {
	r := rand.New(rand.NewSource(10))
	is := done(t)
	zero, one := big.Of(0), big.Of(1)
	for range 3000 {
		a, b, c := of(some(r, 9)), of(some(r, 9)), of(some(r, 9))
		same(t, "a + b is b + a", is(big.Add(a, b)), is(big.Add(b, a)))
		same(t, "a b is b a", is(big.Mul(a, b)), is(big.Mul(b, a)))
		same(t, "(a + b) + c is a + (b + c)", is(big.Add(is(big.Add(a, b)), c)), is(big.Add(a, is(big.Add(b, c)))))
		same(t, "(a b) c is a (b c)", is(big.Mul(is(big.Mul(a, b)), c)), is(big.Mul(a, is(big.Mul(b, c)))))
		same(t, "a (b + c) is a b + a c", is(big.Mul(a, is(big.Add(b, c)))), is(big.Add(is(big.Mul(a, b)), is(big.Mul(a, c)))))
		same(t, "a - b + b is a", is(big.Add(is(big.Sub(a, b)), b)), a)
		same(t, "a - b is a + (-b)", is(big.Sub(a, b)), is(big.Add(a, big.Neg(b))))
		same(t, "a + 0 is a", is(big.Add(a, zero)), a)
		same(t, "1 a is a", is(big.Mul(one, a)), a)
		same(t, "0 a is 0", is(big.Mul(a, zero)), zero)
		same(t, "a - a is 0", is(big.Sub(a, a)), zero)
		same(t, "-(-a) is a", big.Neg(big.Neg(a)), a)
	}
}

func TestOrder(t *testing.T) {
	r := rand.New(rand.NewSource(11))
	is := done(t)
	for i := range 3000 {
		a, b, c := of(some(r, 6)), of(some(r, 6)), of(some(r, 6))
		if i%4 == 0 {
			b = is(big.Add(a, big.Of(i%3-1)))
		}
		order := big.Compare(a, b)
		if big.Compare(b, a) != -order || big.Compare(big.Neg(a), big.Neg(b)) != -order || is(big.Sub(a, b)).Sign != order {
			t.Fatalf("Compare(%v, %v) is %d", a, b, order)
		}
		if big.Compare(is(big.Add(a, c)), is(big.Add(b, c))) != order {
			t.Fatalf("with %v added the order of %v and %v is another one", c, a, b)
		}
		if big.Compare(is(big.Mul(a, c)), is(big.Mul(b, c))) != order*c.Sign {
			t.Fatalf("times %v the order of %v and %v is another one", c, a, b)
		}
		if order <= 0 && big.Compare(b, c) <= 0 && big.Compare(a, c) > 0 {
			t.Fatalf("%v, %v and %v are not in order", a, b, c)
		}
	}
}

func TestQuotientsAndDivisors(t *testing.T) {
	r := rand.New(rand.NewSource(12))
	is := done(t)
	for range 3000 {
		a, b := of(some(r, 9)), of(some(r, 6))
		g := is(big.Gcd(a, b))
		same(t, "Gcd of b and a", is(big.Gcd(b, a)), g)
		same(t, "Gcd of a and -b", is(big.Gcd(a, big.Neg(b))), g)
		same(t, "Gcd of -a and b", is(big.Gcd(big.Neg(a), b)), g)
		if a.Sign != 0 {
			_, rest, e := big.Div(b, a)
			same(t, "Gcd of a and the remainder", is(big.Gcd(a, is(rest, e))), g)
		}
		if g.Sign < 0 || (g.Sign == 0) != (a.Sign == 0 && b.Sign == 0) {
			t.Fatalf("the sign of Gcd(%v, %v) is %d", a, b, g.Sign)
		}
		if b.Sign == 0 {
			continue
		}
		q, rest, e := big.Div(a, b)
		same(t, "the quotient times b, plus the remainder", is(big.Add(is(big.Mul(is(q, e), b)), is(rest, e))), a)
		if rest.Sign != 0 && rest.Sign != b.Sign || big.Compare(is(big.Mul(rest, rest)), is(big.Mul(b, b))) >= 0 {
			t.Fatalf("the remainder of %v by %v is %v", a, b, rest)
		}
		for _, n := range []api.Big{a, b} {
			if _, rest, e := big.Div(n, g); e != api.OK || rest.Sign != 0 {
				t.Fatalf("Gcd(%v, %v) does not divide %v", a, b, n)
			}
		}
		same(t, "what is divided by Gcd has no common divisor", is(big.Gcd(quotientOf(big.Div(a, g)), quotientOf(big.Div(b, g)))), big.Of(1))
	}
}

func quotientOf(q, _ api.Big, _ api.Errno) api.Big { return q }

func TestReadOfText(t *testing.T) {
	r := rand.New(rand.NewSource(13))
	is := done(t)
	for range 3000 {
		a := of(some(r, 30))
		same(t, "Read of Text", is(big.Read(big.Text(a))), a)
	}
}

// someInt returns an int of any size.
func someInt(r *rand.Rand) int {
	n := int(r.Uint64()) >> r.Intn(64)
	switch r.Intn(20) {
	case 0:
		return math.MaxInt - r.Intn(3)
	case 1:
		return math.MinInt + r.Intn(3)
	}
	return n
}

func TestOperationsOfInts(t *testing.T) {
	r := rand.New(rand.NewSource(14))
	is := func(what string, a api.Big, e api.Errno, want int) {
		t.Helper()
		if n, fits := big.Int(a); n != want || !fits || e != api.OK || !big.Same(big.Of(want), a) {
			t.Fatalf("%s is %v, error %d, want %d", what, a, e, want)
		}
	}
	for range 20000 {
		x, y := someInt(r), someInt(r)
		a, b := big.Of(x), big.Of(y)
		if s := x + y; (s > x) == (y > 0) {
			c, e := big.Add(a, b)
			is("a sum", c, e, s)
		}
		if d := x - y; (d < x) == (y > 0) {
			c, e := big.Sub(a, b)
			is("a difference", c, e, d)
		}
		if p := x * y; x == 0 || p/x == y && (x != -1 || y != math.MinInt) && (y != -1 || x != math.MinInt) {
			c, e := big.Mul(a, b)
			is("a product", c, e, p)
		}
		if x != math.MinInt {
			is("an opposite", big.Neg(a), api.OK, -x)
		}
		if got := big.Compare(a, b); got != bit(x > y)-bit(x < y) {
			t.Fatalf("Compare of %d and %d is %d", x, y, got)
		}
		if y == 0 || y == -1 {
			continue
		}
		q, m := x/y, x%y
		if m != 0 && (m < 0) != (y < 0) {
			q, m = q-1, m+y
		}
		c, d, e := big.Div(a, b)
		is("a quotient", c, e, q)
		is("a remainder", d, e, m)
	}
}

func TestOperationsThatLeaveTheInts(t *testing.T) {
	for _, c := range []struct {
		what string
		got  api.Big
		want string
	}{
		{"MaxInt + 1", resultOf(big.Add(big.Of(math.MaxInt), big.Of(1))), "9223372036854775808"},
		{"MinInt - 1", resultOf(big.Sub(big.Of(math.MinInt), big.Of(1))), "-9223372036854775809"},
		{"-MinInt", big.Neg(big.Of(math.MinInt)), "9223372036854775808"},
		{"0 - MinInt", resultOf(big.Sub(big.Of(0), big.Of(math.MinInt))), "9223372036854775808"},
		{"MinInt + MinInt", resultOf(big.Add(big.Of(math.MinInt), big.Of(math.MinInt))), "-18446744073709551616"},
		{"MaxInt + MaxInt", resultOf(big.Add(big.Of(math.MaxInt), big.Of(math.MaxInt))), "18446744073709551614"},
		{"MinInt MinInt", resultOf(big.Mul(big.Of(math.MinInt), big.Of(math.MinInt))), "85070591730234615865843651857942052864"},
		{"MinInt -1", resultOf(big.Mul(big.Of(math.MinInt), big.Of(-1))), "9223372036854775808"},
		{"MinInt / -1", quotientOf(big.Div(big.Of(math.MinInt), big.Of(-1))), "9223372036854775808"},
		{"Gcd of MinInt and 0", resultOf(big.Gcd(big.Of(math.MinInt), big.Of(0))), "9223372036854775808"},
		{"Gcd of MinInt and MinInt", resultOf(big.Gcd(big.Of(math.MinInt), big.Of(math.MinInt))), "9223372036854775808"},
	} {
		if !equal(c.got, of(number(t, c.want))) || big.Text(c.got) != c.want {
			t.Errorf("%s is %s, want %s", c.what, big.Text(c.got), c.want)
		}
	}
}

func resultOf(a api.Big, _ api.Errno) api.Big { return a }

// Integers of thousands of digits.

func TestFactorials(t *testing.T) {
	is := done(t)
	product, want := big.Of(1), gobig.NewInt(1)
	for n := 1; n <= 1500; n++ {
		product = is(big.Mul(product, big.Of(n)))
		want.Mul(want, gobig.NewInt(int64(n)))
	}
	if text := big.Text(product); text != want.String() {
		t.Errorf("1500! has %d digits, other ones than it should have", len(text))
	}
	half := big.Of(1)
	for n := 1; n <= 750; n++ {
		half = is(big.Mul(half, big.Of(n)))
	}
	same(t, "Gcd of 1500! and 750!", is(big.Gcd(product, half)), half)
	for n := 1500; n >= 1; n-- {
		q, r, e := big.Div(product, big.Of(n))
		same(t, "the remainder", is(r, e), big.Of(0))
		product = q
	}
	same(t, "1500! divided by everything", product, big.Of(1))
}

func TestIntegersOfManyDigits(t *testing.T) {
	is := done(t)
	nines, others := strings.Repeat("9", 20000), strings.Repeat("1234567890", 1500)
	a, b := is(big.Read(nines)), is(big.Read(others))
	if big.Text(a) != nines || big.Text(b) != others {
		t.Error("Text of Read is another text")
	}
	power := is(big.Add(a, big.Of(1)))
	if big.Text(power) != "1"+strings.Repeat("0", 20000) {
		t.Error("10^20000 is another text")
	}
	same(t, "(10^n - 1) b + b is 10^n b", is(big.Add(is(big.Mul(a, b)), b)), is(big.Mul(power, b)))
	if got := big.Text(is(big.Mul(power, b))); got != others+strings.Repeat("0", 20000) {
		t.Error("10^20000 b is another text")
	}
	q, r, e := big.Div(is(big.Add(is(big.Mul(power, b)), big.Of(7))), b)
	same(t, "the quotient", is(q, e), power)
	same(t, "the remainder", is(r, e), big.Of(7))
	same(t, "Gcd", is(big.Gcd(is(big.Mul(a, b)), is(big.Mul(power, b)))), b)
}
