package frac_test

import (
	gobig "math/big"
	"math/rand"
	"slices"
	"sync"
	"testing"

	"kerbside/api"
	"kerbside/big"
	"kerbside/frac"
)

// The model is Go's own package for fractions.

// ratio returns the fraction with a text.
func ratio(t *testing.T, s string) *gobig.Rat {
	t.Helper()
	x, is := new(gobig.Rat).SetString(s)
	if !is || x.String() != s {
		t.Fatalf("%q is no text of a fraction", s)
	}
	return x
}

// number returns the integer with a text.
func number(t *testing.T, s string) *gobig.Int {
	t.Helper()
	n, is := new(gobig.Int).SetString(s, 10)
	if !is {
		t.Fatalf("%q is no number", s)
	}
	return n
}

// ofInt returns the right big integer with a value, by the definition.
func ofInt(x *gobig.Int) api.Big {
	a := api.Big{Sign: x.Sign()}
	for rest := new(gobig.Int).Abs(x); rest.Sign() > 0; rest.Rsh(rest, 20) {
		a.Digits = append(a.Digits, int(new(gobig.Int).And(rest, gobig.NewInt(top)).Int64()))
	}
	return a
}

// of returns the right fraction with a value, by the definition.
func of(x *gobig.Rat) api.Frac { return api.Frac{P: ofInt(x.Num()), Q: ofInt(x.Denom())} }

func equalBig(a, b api.Big) bool { return a.Sign == b.Sign && slices.Equal(a.Digits, b.Digits) }

func equal(a, b api.Frac) bool { return equalBig(a.P, b.P) && equalBig(a.Q, b.Q) }

// agrees compares all functions of two fractions with the model.
func agrees(t *testing.T, x, y *gobig.Rat) {
	t.Helper()
	a, b := of(x), of(y)
	result := func(name string, got api.Frac, e api.Errno, want *gobig.Rat) {
		t.Helper()
		if e != api.OK || !equal(got, of(want)) {
			t.Fatalf("%s of %s and %s is %v, error %d, want %s", name, x, y, got, e, want)
		}
	}
	n := new(gobig.Rat)
	f, e := frac.Add(a, b)
	result("Add", f, e, n.Add(x, y))
	f, e = frac.Sub(a, b)
	result("Sub", f, e, n.Sub(x, y))
	f, e = frac.Mul(a, b)
	result("Mul", f, e, n.Mul(x, y))
	if f, e = frac.Div(a, b); y.Sign() != 0 {
		result("Div", f, e, n.Quo(x, y))
	} else {
		fails(t, "Div by 0", f, e, api.ErrDivide)
	}
	order := x.Cmp(y)
	if got := frac.Compare(a, b); got != order {
		t.Fatalf("Compare of %s and %s is %d", x, y, got)
	}
	if got := frac.Same(a, b); got != (order == 0) {
		t.Fatalf("Same of %s and %s is %t", x, y, got)
	}
	least, most := x, y
	if order > 0 {
		least, most = y, x
	}
	f, e = frac.Min(a, b)
	result("Min", f, e, least)
	f, e = frac.Max(a, b)
	result("Max", f, e, most)
}

// agreesAlone compares all functions of one fraction with the model.
func agreesAlone(t *testing.T, x *gobig.Rat) {
	t.Helper()
	f := of(x)
	if !frac.Right(f) {
		t.Fatalf("%s is not right", x)
	}
	if got := frac.Sign(f); got != x.Sign() {
		t.Fatalf("Sign of %s is %d", x, got)
	}
	if got := frac.Neg(f); !equal(got, of(new(gobig.Rat).Neg(x))) {
		t.Fatalf("Neg of %s is %v", x, got)
	}
	// Div of the model rounds down where the divisor is positive.
	if got := frac.Floor(f); !equalBig(got, ofInt(new(gobig.Int).Div(x.Num(), x.Denom()))) {
		t.Fatalf("Floor of %s is %v", x, got)
	}
	if got := frac.Text(f); got != x.String() {
		t.Fatalf("Text of %s is %q", x, got)
	}
	if got, e := frac.Read(x.String()); e != api.OK || !equal(got, f) {
		t.Fatalf("Read of %s is %v, error %d", x, got, e)
	}
}

// makes compares New with the model.
func makes(t *testing.T, p, q *gobig.Int) {
	t.Helper()
	f, e := frac.New(ofInt(p), ofInt(q))
	if q.Sign() == 0 {
		fails(t, "New with the denominator 0", f, e, api.ErrDivide)
		return
	}
	if e != api.OK || !equal(f, of(new(gobig.Rat).SetFrac(p, q))) {
		t.Fatalf("New of %s and %s is %v, error %d", p, q, f, e)
	}
	given := api.Frac{P: ofInt(p), Q: ofInt(q)}
	if want := q.Sign() > 0 && new(gobig.Int).GCD(nil, nil, p, q).IsInt64() && new(gobig.Int).GCD(nil, nil, p, q).Int64() == 1; frac.Right(given) != want {
		t.Fatalf("Right of %s over %s is %t", p, q, !want)
	}
}

// someInt returns an integer with up to so many bits, often close to a power of 2.
func someInt(r *rand.Rand, most int) *gobig.Int {
	n := new(gobig.Int).Lsh(gobig.NewInt(1), uint(r.Intn(most)))
	switch r.Intn(4) {
	case 0:
		n.Add(n, gobig.NewInt(int64(r.Intn(5)-2)))
	default:
		n.Rand(r, n)
	}
	if r.Intn(2) == 0 {
		n.Neg(n)
	}
	return n
}

// some returns a fraction whose parts have up to so many bits.
func some(r *rand.Rand, most int) *gobig.Rat {
	q := someInt(r, most)
	if q.Sign() == 0 || r.Intn(6) == 0 {
		q.SetInt64(1)
	}
	return new(gobig.Rat).SetFrac(someInt(r, most), q)
}

func TestSmallFractions(t *testing.T) {
	var l []*gobig.Rat
	seen := map[string]bool{}
	for p := -9; p <= 9; p++ {
		for q := 1; q <= 9; q++ {
			if x := gobig.NewRat(int64(p), int64(q)); !seen[x.String()] {
				seen[x.String()] = true
				l = append(l, x)
			}
		}
	}
	for _, x := range l {
		agreesAlone(t, x)
		for _, y := range l {
			agrees(t, x, y)
		}
	}
}

func TestAroundPowers(t *testing.T) {
	// Around these sizes a product, or a sum of two, is an int no longer.
	var parts []*gobig.Int
	for _, k := range []uint{1, 20, 30, 31, 32, 33, 61, 62, 63, 64, 90} {
		for d := -1; d <= 1; d++ {
			n := new(gobig.Int).Lsh(gobig.NewInt(1), k)
			parts = append(parts, n.Add(n, gobig.NewInt(int64(d))))
		}
	}
	var l []*gobig.Rat
	for i, p := range parts {
		for k, q := range parts {
			makes(t, p, q)
			makes(t, p, new(gobig.Int).Neg(q))
			x := new(gobig.Rat).SetFrac(p, q)
			agreesAlone(t, x)
			agreesAlone(t, new(gobig.Rat).Neg(x))
			if (i+k)%5 == 0 {
				l = append(l, x)
			}
		}
	}
	for _, x := range l {
		for _, y := range l {
			agrees(t, x, y)
			agrees(t, x, new(gobig.Rat).Neg(y))
		}
	}
}

func TestUnequalSizes(t *testing.T) {
	// A fraction of a few bits and one of many: together they may fit into an int, or just not.
	r := rand.New(rand.NewSource(1))
	for k := range 64 {
		for range 60 {
			x, y := some(r, k+1), some(r, 66-k)
			agrees(t, x, y)
			agrees(t, y, x)
		}
	}
}

func TestRandomFractions(t *testing.T) {
	r := rand.New(rand.NewSource(2))
	for i := range 6000 {
		most := 1 + i%200
		if i%50 == 0 {
			most = 1200
		}
		x, y := some(r, most), some(r, most)
		agrees(t, x, y)
		agreesAlone(t, x)
		makes(t, someInt(r, most), someInt(r, most))
	}
}

func TestFractionsThatShorten(t *testing.T) {
	// Numerators and denominators with common divisors, and sums that have one with both denominators.
	r := rand.New(rand.NewSource(3))
	for i := range 4000 {
		most := 2 + i%80
		x, y := some(r, most), some(r, most)
		agrees(t, x, new(gobig.Rat).Quo(y, gobig.NewRat(int64(1+r.Intn(60)), int64(1+r.Intn(60)))))
		sum := new(gobig.Rat).Add(x, y)
		agrees(t, sum, x)
		agrees(t, sum, new(gobig.Rat).Neg(y))
		product := new(gobig.Rat).Mul(x, y)
		agrees(t, product, x)
		agrees(t, x, x)
		agrees(t, x, new(gobig.Rat).Neg(x))
		if x.Sign() != 0 {
			agrees(t, product, new(gobig.Rat).Inv(x))
			agrees(t, x, new(gobig.Rat).Inv(x))
		}
		d := someInt(r, most)
		makes(t, d.Mul(d, x.Num()), new(gobig.Int).Mul(d, x.Denom()))
	}
}

func TestFractionsThatAreClose(t *testing.T) {
	// Neighbours of a continued fraction: their products differ by 1.
	for _, size := range []int{1, 3, 1 << 20, 1<<31 - 1, 1 << 40} {
		p, q, r, s := gobig.NewInt(0), gobig.NewInt(1), gobig.NewInt(1), gobig.NewInt(0)
		for i := range 60 {
			by := gobig.NewInt(int64(1 + i%size))
			p, r = r, new(gobig.Int).Add(p, new(gobig.Int).Mul(by, r))
			q, s = s, new(gobig.Int).Add(q, new(gobig.Int).Mul(by, s))
			if q.Sign() == 0 {
				continue
			}
			x, y := new(gobig.Rat).SetFrac(p, q), new(gobig.Rat).SetFrac(r, s)
			agrees(t, x, y)
			agrees(t, new(gobig.Rat).Neg(y), new(gobig.Rat).Neg(x))
		}
	}
}

// P5.5

// spareBig is an integer whose slice has elements beyond its length; they must be neither read nor written.
func spareBig(a api.Big) api.Big {
	n := len(a.Digits)
	return api.Big{Sign: a.Sign, Digits: append(slices.Clone(a.Digits), 1, -5, top+1, 3, 0)[:n]}
}

func spare(f api.Frac) api.Frac { return api.Frac{P: spareBig(f.P), Q: spareBig(f.Q)} }

// untouched reports whether an argument made by spare is as it was.
func untouched(a, f api.Frac) bool {
	p, q := a.P.Digits, a.Q.Digits
	end := []int{1, -5, top + 1, 3, 0}
	return equal(a, f) && slices.Equal(p[len(p):len(p)+5], end) && slices.Equal(q[len(q):len(q)+5], end)
}

// spoil changes the digits of a result, and appends to them.
func spoil(l ...[]int) {
	for _, d := range l {
		for i := range d {
			d[i] = -99
		}
		_ = append(d, -98, -97)
	}
}

// free reports whether a result has digits that no other slice shares: once one part is spoiled, the other one is as it was, and so is each of the arguments.
func free(f api.Frac, as ...api.Frac) bool {
	var before []api.Frac
	for _, a := range as {
		before = append(before, api.Frac{P: big.Neg(big.Neg(a.P)), Q: big.Neg(big.Neg(a.Q))})
	}
	q := slices.Clone(f.Q.Digits)
	spoil(f.P.Digits)
	is := slices.Equal(q, f.Q.Digits)
	spoil(f.Q.Digits)
	for i, a := range as {
		is = is && untouched(a, before[i])
	}
	return is
}

func TestMemoryOfFunctionsOfTwo(t *testing.T) {
	for name, f := range binary() {
		for _, x := range rights() {
			for _, y := range rights() {
				a, b := spare(x), spare(y)
				c, e := f(a, b)
				want := api.Frac{P: big.Neg(big.Neg(c.P)), Q: big.Neg(big.Neg(c.Q))}
				if !free(c, a, b) {
					t.Fatalf("%s(%v, %v) changes an argument, or shares memory", name, x, y)
				}
				again, d := f(a, b)
				if !equal(again, want) || d != e {
					t.Fatalf("%s(%v, %v) is %v, and then %v", name, x, y, want, again)
				}
				spoil(a.P.Digits, a.Q.Digits, b.P.Digits, b.Q.Digits)
				if !equal(again, want) {
					t.Fatalf("%s(%v, %v) shares memory with an argument", name, x, y)
				}
			}
		}
	}
}

func TestMemoryOfTheSameArgumentTwice(t *testing.T) {
	for name, f := range binary() {
		for _, x := range rights() {
			a := spare(x)
			c, e := f(a, a)
			if other, d := f(spare(x), spare(x)); !equal(c, other) || e != d {
				t.Errorf("%s of %v and the same slices is %v, error %d, want %v, error %d", name, x, c, e, other, d)
			}
			if !free(c, a) {
				t.Errorf("%s of %v and the same slices shares memory", name, x)
			}
		}
	}
	// Both parts of an argument may share their digits.
	d := []int{1}
	f, e := frac.Max(api.Frac{P: api.Big{Sign: 1, Digits: d}, Q: api.Big{Sign: 1, Digits: d}}, ints(0, 1))
	spoil(f.P.Digits)
	if e != api.OK || !equalBig(f.Q, digits(1, 1)) || d[0] != 1 {
		t.Errorf("Max of a fraction whose parts share their digits shares memory")
	}
	f = frac.Neg(api.Frac{P: api.Big{Sign: 1, Digits: d}, Q: api.Big{Sign: 1, Digits: d}})
	spoil(f.P.Digits)
	if !equalBig(f.Q, digits(1, 1)) || d[0] != 1 {
		t.Errorf("Neg of a fraction whose parts share their digits shares memory")
	}
	f, e = frac.New(api.Big{Sign: -1, Digits: d}, api.Big{Sign: 1, Digits: d})
	spoil(f.P.Digits)
	if e != api.OK || !equalBig(f.Q, digits(1, 1)) || d[0] != 1 {
		t.Errorf("New of integers that share their digits shares memory")
	}
}

func TestMemoryOfFunctionsOfOne(t *testing.T) {
	for _, x := range rights() {
		a := spare(x)
		if !free(frac.Neg(a), a) {
			t.Errorf("Neg(%v) shares memory", x)
		}
		floor := frac.Floor(a)
		spoil(floor.Digits)
		if text := frac.Text(a); text != frac.Text(x) || !frac.Right(a) || frac.Sign(a) != x.P.Sign || !untouched(a, x) {
			t.Errorf("Floor(%v) shares memory with its argument", x)
		}
		floor = frac.Floor(a)
		opposite := frac.Neg(a)
		spoil(a.P.Digits, a.Q.Digits)
		if !equalBig(floor, frac.Floor(x)) || !equal(opposite, frac.Neg(x)) {
			t.Errorf("Floor or Neg of %v shares memory with its argument", x)
		}
		read, _ := frac.Read(frac.Text(x))
		if !free(read) {
			t.Errorf("the parts of what Read returns for %v share memory", x)
		}
	}
}

func TestMemoryOfNew(t *testing.T) {
	for _, x := range rights() {
		for _, by := range []api.Big{digits(1, 1), digits(-1, 1), digits(1, 6), digits(-1, 0, 0, 0, 0, 1)} {
			p, _ := big.Mul(x.P, by)
			q, _ := big.Mul(x.Q, by)
			given := api.Frac{P: p, Q: q}
			a := spare(given)
			f, e := frac.New(a.P, a.Q)
			if e != api.OK || !equal(f, x) || !free(f, a) {
				t.Errorf("New(%v, %v) is wrong, or shares memory", p, q)
			}
			f, _ = frac.New(a.P, a.Q)
			spoil(a.P.Digits, a.Q.Digits)
			if !equal(f, x) {
				t.Errorf("New(%v, %v) shares memory with its arguments", p, q)
			}
		}
	}
	for _, n := range []int{0, 1, -1, 7, 1 << 40} {
		f, _ := frac.Of(n, 3)
		g := frac.Int(n)
		if !free(f) || !free(g) {
			t.Errorf("the parts of Of(%d, 3) or of Int(%d) share memory", n, n)
		}
		f, _ = frac.Of(n, 3)
		if g = frac.Int(n); !equal(f, of(gobig.NewRat(int64(n), 3))) || !equal(g, of(gobig.NewRat(int64(n), 1))) {
			t.Errorf("a changed result changes the next one of Of(%d, 3) or of Int(%d)", n, n)
		}
	}
}

func TestMemoryOfWhatIsNotRight(t *testing.T) {
	for _, x := range wrongs() {
		a := spare(x)
		for _, f := range binary() {
			f(a, a)
			f(a, ints(1, 2))
			f(ints(1, 2), a)
		}
		frac.New(a.P, a.Q)
		frac.Neg(a)
		frac.Floor(a)
		frac.Text(a)
		frac.Sign(a)
		frac.Right(a)
		if frac.Compare(a, a) != 0 || !frac.Same(a, a) || !untouched(a, x) {
			t.Errorf("a function changes %v", x)
		}
	}
}

func TestCallsSideBySide(t *testing.T) {
	var all sync.WaitGroup
	for i := range 4 {
		all.Go(func() {
			r := rand.New(rand.NewSource(int64(i)))
			for range 300 {
				x, y := some(r, 150), some(r, 150)
				s, _ := frac.Add(of(x), of(y))
				p, _ := frac.Mul(of(x), of(y))
				if !equal(s, of(new(gobig.Rat).Add(x, y))) || frac.Text(p) != new(gobig.Rat).Mul(x, y).String() || frac.Compare(of(x), of(y)) != x.Cmp(y) {
					t.Errorf("the results for %s and %s depend on other calls", x, y)
				}
			}
		})
	}
	all.Wait()
}

// P5.6, P5.7 and P5.8: the theorems, with the functions of the package alone.

func done(t *testing.T) func(api.Frac, api.Errno) api.Frac {
	return func(f api.Frac, e api.Errno) api.Frac {
		t.Helper()
		if e != api.OK || !frac.Right(f) {
			t.Fatalf("%v, error %d", f, e)
		}
		return f
	}
}

func same(t *testing.T, law string, a, b api.Frac) {
	t.Helper()
	if !frac.Same(a, b) || frac.Compare(a, b) != 0 {
		t.Fatalf("%s: %v and %v", law, a, b)
	}
}

func TestField(t *testing.T) {
	r := rand.New(rand.NewSource(4))
	is := done(t)
	zero, one := frac.Int(0), frac.Int(1)
	for i := range 3000 {
		most := 2 + i%100
		a, b, c := of(some(r, most)), of(some(r, most)), of(some(r, most))
		same(t, "a + b is b + a", is(frac.Add(a, b)), is(frac.Add(b, a)))
		same(t, "a b is b a", is(frac.Mul(a, b)), is(frac.Mul(b, a)))
		same(t, "(a + b) + c is a + (b + c)", is(frac.Add(is(frac.Add(a, b)), c)), is(frac.Add(a, is(frac.Add(b, c)))))
		same(t, "(a b) c is a (b c)", is(frac.Mul(is(frac.Mul(a, b)), c)), is(frac.Mul(a, is(frac.Mul(b, c)))))
		same(t, "a (b + c) is a b + a c", is(frac.Mul(a, is(frac.Add(b, c)))), is(frac.Add(is(frac.Mul(a, b)), is(frac.Mul(a, c)))))
		same(t, "a + 0 is a", is(frac.Add(a, zero)), a)
		same(t, "1 a is a", is(frac.Mul(one, a)), a)
		same(t, "a - b + b is a", is(frac.Add(is(frac.Sub(a, b)), b)), a)
		same(t, "a + b - b is a", is(frac.Sub(is(frac.Add(a, b)), b)), a)
		same(t, "a - a is 0", is(frac.Sub(a, a)), zero)
		same(t, "0 - a is -a", is(frac.Sub(zero, a)), frac.Neg(a))
		same(t, "-(-a) is a", frac.Neg(frac.Neg(a)), a)
		if frac.Sign(b) == 0 {
			continue
		}
		same(t, "a / b b is a", is(frac.Mul(is(frac.Div(a, b)), b)), a)
		same(t, "a b / b is a", is(frac.Div(is(frac.Mul(a, b)), b)), a)
		same(t, "b / b is 1", is(frac.Div(b, b)), one)
	}
}

func TestOrder(t *testing.T) {
	r := rand.New(rand.NewSource(5))
	is := done(t)
	for i := range 3000 {
		most := 2 + i%100
		a, b, c := of(some(r, most)), of(some(r, most)), of(some(r, most))
		if i%8 == 0 {
			b = a
		}
		order := frac.Compare(a, b)
		if frac.Compare(b, a) != -order || frac.Compare(frac.Neg(a), frac.Neg(b)) != -order || frac.Sign(is(frac.Sub(a, b))) != order {
			t.Fatalf("Compare(%v, %v) is %d", a, b, order)
		}
		if (order == 0) != frac.Same(a, b) {
			t.Fatalf("Compare(%v, %v) is %d", a, b, order)
		}
		if frac.Compare(is(frac.Add(a, c)), is(frac.Add(b, c))) != order {
			t.Fatalf("with %v added the order of %v and %v is another one", c, a, b)
		}
		if frac.Compare(is(frac.Mul(a, c)), is(frac.Mul(b, c))) != order*frac.Sign(c) {
			t.Fatalf("times %v the order of %v and %v is another one", c, a, b)
		}
		if order <= 0 && frac.Compare(b, c) <= 0 && frac.Compare(a, c) > 0 {
			t.Fatalf("%v, %v and %v are not in order", a, b, c)
		}
		least, most2 := is(frac.Min(a, b)), is(frac.Max(a, b))
		if frac.Compare(least, most2) > 0 || !frac.Same(least, a) && !frac.Same(least, b) || !frac.Same(most2, a) && !frac.Same(most2, b) {
			t.Fatalf("Min and Max of %v and %v are %v and %v", a, b, least, most2)
		}
		same(t, "Min + Max is a + b", is(frac.Add(least, most2)), is(frac.Add(a, b)))
	}
}

func TestReadOfTextAndFloor(t *testing.T) {
	r := rand.New(rand.NewSource(6))
	is := done(t)
	one := frac.Int(1)
	for i := range 3000 {
		f := of(some(r, 2+i%300))
		same(t, "Read of Text", is(frac.Read(frac.Text(f))), f)
		n := ofInt(someInt(r, 100))
		if n.Sign == 0 {
			n = big.Of(-3)
		}
		p, _ := big.Mul(f.P, n)
		q, _ := big.Mul(f.Q, n)
		same(t, "New of a multiple", is(frac.New(p, q)), f)
		floor := is(frac.New(frac.Floor(f), big.Of(1)))
		if frac.Compare(floor, f) > 0 || frac.Compare(is(frac.Add(floor, one)), f) <= 0 {
			t.Fatalf("Floor of %v is %v", f, floor)
		}
	}
}

// Sums and products of many fractions.

func TestManyTerms(t *testing.T) {
	is := done(t)
	sum, product := frac.Int(0), frac.Int(1)
	wantSum, wantProduct := new(gobig.Rat), gobig.NewRat(1, 1)
	for n := 1; n <= 400; n++ {
		sum = is(frac.Add(sum, is(frac.Of(1, n))))
		wantSum.Add(wantSum, gobig.NewRat(1, int64(n)))
		product = is(frac.Mul(product, is(frac.Of(n, 2*n+1))))
		wantProduct.Mul(wantProduct, gobig.NewRat(int64(n), int64(2*n+1)))
	}
	if frac.Text(sum) != wantSum.String() || frac.Text(product) != wantProduct.String() {
		t.Error("the sum of 1/n or the product of n/(2n+1) is another one")
	}
	for n := 400; n >= 1; n-- {
		sum = is(frac.Sub(sum, is(frac.Of(1, n))))
		product = is(frac.Div(product, is(frac.Of(n, 2*n+1))))
	}
	same(t, "the sum, with everything taken off", sum, frac.Int(0))
	same(t, "the product, divided by everything", product, frac.Int(1))
}
