package linear_test

import (
	gobig "math/big"
	"math/rand"
	"slices"
	"testing"

	"kerbside/api"
	"kerbside/frac"
	"kerbside/linear"
)

// P8.5, P8.6 and P8.7: the theorems, with the functions of the program alone.

// value returns the value of terms, which there must be.
func value(t *testing.T, l []api.Term, x []api.Frac) api.Frac {
	t.Helper()
	v, is := linear.Value(l, x)
	if !is || !frac.Right(v) {
		t.Fatalf("the value of %s at %s is %v, %t", show(l), showAll(x), v, is)
	}
	return v
}

func same(t *testing.T, law string, a, b []api.Term) {
	t.Helper()
	if !linear.Same(a, b) || !linear.RightTerms(a, api.MaxVars) {
		t.Fatalf("%s: %s and %s", law, show(a), show(b))
	}
}

func TestPlusIsASum(t *testing.T) {
	r := rand.New(rand.NewSource(11))
	one, minus := frac.Int(1), frac.Int(-1)
	for i := range 1500 {
		n, most := 1+i%8, 1+i%100
		a, b, c := someTerms(r, n, most).list(), someTerms(r, n, most).list(), someTerms(r, n, most).list()
		f, g, x := of(some(r, most)), of(some(r, most)), ofAll(somePoint(r, n, most))
		same(t, "a + b is b + a", linear.Plus(a, b), linear.Plus(b, a))
		same(t, "(a + b) + c is a + (b + c)", linear.Plus(linear.Plus(a, b), c), linear.Plus(a, linear.Plus(b, c)))
		same(t, "a + 0 is a", linear.Plus(a, nil), a)
		same(t, "0 + a is a", linear.Plus(nil, a), a)
		same(t, "a + -a is 0", linear.Plus(a, linear.Times(a, minus)), nil)
		same(t, "1 a is a", linear.Times(a, one), a)
		same(t, "0 a is 0", linear.Times(a, frac.Int(0)), nil)
		same(t, "a + a is 2 a", linear.Plus(a, a), linear.Times(a, frac.Int(2)))
		same(t, "f (a + b) is f a + f b", linear.Times(linear.Plus(a, b), f), linear.Plus(linear.Times(a, f), linear.Times(b, f)))
		sum, _ := frac.Add(f, g)
		product, _ := frac.Mul(f, g)
		same(t, "(f + g) a is f a + g a", linear.Times(a, sum), linear.Plus(linear.Times(a, f), linear.Times(a, g)))
		same(t, "f (g a) is (f g) a", linear.Times(linear.Times(a, g), f), linear.Times(a, product))
		sum, _ = frac.Add(value(t, a, x), value(t, b, x))
		if !frac.Same(value(t, linear.Plus(a, b), x), sum) {
			t.Fatalf("the value of %s + %s is not the sum of their values", show(a), show(b))
		}
		product, _ = frac.Mul(value(t, a, x), f)
		if !frac.Same(value(t, linear.Times(a, f), x), product) {
			t.Fatalf("the value of %s times %s is not the product", show(a), showFrac(f))
		}
	}
}

func TestRowsAreIndependent(t *testing.T) {
	r := rand.New(rand.NewSource(12))
	for i := range 1500 {
		n, most := 1+i%5, 1+i%60
		x := somePoint(r, n, most)
		var s api.System
		each := true
		for s = system(n); len(s.Rows) < i%6; {
			w, _ := someRow(r, x, most)
			s.Rows = append(s.Rows, w)
			each = each && linear.Holds(system(n, w), ofAll(x))
			if linear.Holds(s, ofAll(x)) != each {
				t.Fatalf("Holds of %v is not that of its rows", s)
			}
		}
		r.Shuffle(len(s.Rows), func(i, k int) { s.Rows[i], s.Rows[k] = s.Rows[k], s.Rows[i] })
		if linear.Holds(s, ofAll(x)) != each {
			t.Fatalf("the order of the rows of %v plays a part", s)
		}
		twice := system(n, slices.Concat(s.Rows, s.Rows)...)
		if linear.Holds(twice, ofAll(x)) != each {
			t.Fatalf("with each row twice, Holds of %v is %t", s, !each)
		}
	}
}

// keeps returns a row that holds at x and y.
func keeps(r *rand.Rand, x, y []*gobig.Rat, most int) api.Row {
	a, b := someTerms(r, len(x), most), someTerms(r, len(x), most)
	p, q := a.at(x), a.at(y)
	switch kind := r.Intn(api.RoKinds); {
	case kind == api.RoEqual:
		// The difference of a at x and y times b, less that of b times a, has the same value at both.
		a = b.times(new(gobig.Rat).Sub(p, q)).plus(a.times(new(gobig.Rat).Sub(b.at(y), b.at(x))))
		return api.Row{Terms: a.list(), Kind: kind, Value: of(a.at(x))}
	case (kind == api.RoLeast) == (p.Cmp(q) < 0):
		return api.Row{Terms: a.list(), Kind: kind, Value: of(p)}
	default:
		return api.Row{Terms: a.list(), Kind: kind, Value: of(q)}
	}
}

func TestMixturesOfSolutions(t *testing.T) {
	r := rand.New(rand.NewSource(13))
	for i := range 800 {
		n, most := 1+i%5, 1+i%60
		x, y := somePoint(r, n, most), somePoint(r, n, most)
		s := system(n)
		for range i % 7 {
			s.Rows = append(s.Rows, keeps(r, x, y, most))
		}
		if !linear.Holds(s, ofAll(x)) || !linear.Holds(s, ofAll(y)) {
			t.Fatalf("%v does not hold at %v, or at %v", s, x, y)
		}
		for range 4 {
			part := new(gobig.Rat).SetFrac(gobig.NewInt(r.Int63n(101)), gobig.NewInt(100))
			rest := new(gobig.Rat).Sub(gobig.NewRat(1, 1), part)
			mix := make([]*gobig.Rat, n)
			for k := range mix {
				mix[k] = new(gobig.Rat).Add(new(gobig.Rat).Mul(part, x[k]), new(gobig.Rat).Mul(rest, y[k]))
			}
			if !linear.Holds(s, ofAll(mix)) {
				t.Fatalf("%v holds at %v and at %v, but not at their mixture %v", s, x, y, mix)
			}
		}
	}
}

// multiplied returns a row times a fraction other than 0; by a negative one RoLeast and RoMost are exchanged.
func multiplied(w api.Row, f api.Frac) api.Row {
	v, _ := frac.Mul(w.Value, f)
	kind := w.Kind
	if frac.Sign(f) < 0 && kind != api.RoEqual {
		kind = api.RoLeast + api.RoMost - kind
	}
	return api.Row{Terms: linear.Times(w.Terms, f), Kind: kind, Value: v}
}

func TestRowsThatSayTheSame(t *testing.T) {
	r := rand.New(rand.NewSource(14))
	seen := map[bool]int{}
	for i := range 3000 {
		n, most := 1+i%5, 1+i%80
		x := somePoint(r, n, most)
		w, _ := someRow(r, x, most)
		holds := linear.Holds(system(n, w), ofAll(x))
		seen[holds]++
		least, atMost, exact := w, w, w
		least.Kind, atMost.Kind, exact.Kind = api.RoLeast, api.RoMost, api.RoEqual
		both := linear.Holds(system(n, least), ofAll(x)) && linear.Holds(system(n, atMost), ofAll(x))
		if linear.Holds(system(n, exact), ofAll(x)) != both || linear.Holds(system(n, least, atMost), ofAll(x)) != both {
			t.Fatalf("RoEqual of %v is not RoLeast and RoMost", w)
		}
		if !linear.Holds(system(n, least), ofAll(x)) && !linear.Holds(system(n, atMost), ofAll(x)) {
			t.Fatalf("neither RoLeast nor RoMost of %v holds", w)
		}
		f := of(some(r, most))
		if frac.Sign(f) == 0 {
			f = frac.Int(-1)
		}
		for _, by := range []api.Frac{f, frac.Neg(f)} {
			if linear.Holds(system(n, multiplied(w, by)), ofAll(x)) != holds {
				t.Fatalf("%v times %s does not hold where it did", w, showFrac(by))
			}
		}
	}
	if seen[true] < 500 || seen[false] < 500 {
		t.Errorf("too few cases: %v", seen)
	}
}
