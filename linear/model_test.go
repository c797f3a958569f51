package linear_test

import (
	gobig "math/big"
	"math/rand"
	"slices"
	"strconv"
	"strings"
	"sync"
	"testing"

	"kerbside/api"
	"kerbside/linear"
)

const top = 1048575 // the greatest digit

func digits(sign int, l ...int) api.Big { return api.Big{Sign: sign, Digits: l} }

func parts(p, q api.Big) api.Frac { return api.Frac{P: p, Q: q} }

// ofInt returns the right big integer with a value, by the definition.
func ofInt(x *gobig.Int) api.Big {
	a := api.Big{Sign: x.Sign()}
	for rest := new(gobig.Int).Abs(x); rest.Sign() > 0; rest.Rsh(rest, 20) {
		a.Digits = append(a.Digits, int(new(gobig.Int).And(rest, gobig.NewInt(top)).Int64()))
	}
	return a
}

// of returns the right fraction with a value, by the definition.
func of(x *gobig.Rat) api.Frac { return parts(ofInt(x.Num()), ofInt(x.Denom())) }

// number returns the integer with a text.
func number(s string) *gobig.Int {
	n, is := new(gobig.Int).SetString(s, 10)
	if !is {
		panic("no number: " + s)
	}
	return n
}

// raw returns the fraction with the parts of a text, right or not: of 1 or 2/4, for example.
func raw(s string) api.Frac {
	p, q, is := strings.Cut(s, "/")
	if !is {
		q = "1"
	}
	return parts(ofInt(number(p)), ofInt(number(q)))
}

// terms returns the terms with a text, right or not: of 0:2 2:-1/3, for example.
func terms(s string) []api.Term {
	var l []api.Term
	for _, field := range strings.Fields(s) {
		v, coef, _ := strings.Cut(field, ":")
		n, e := strconv.Atoi(v)
		if e != nil {
			panic(e)
		}
		l = append(l, api.Term{Var: n, Coef: raw(coef)})
	}
	return l
}

// point returns the fractions with a text.
func point(s string) []api.Frac {
	var x []api.Frac
	for _, field := range strings.Fields(s) {
		x = append(x, raw(field))
	}
	return x
}

func zeros(n int) []api.Frac { return slices.Repeat(point("0"), n) }

func row(l string, kind int, value string) api.Row {
	return api.Row{Terms: terms(l), Kind: kind, Value: raw(value)}
}

func system(n int, rows ...api.Row) api.System { return api.System{N: n, Rows: rows} }

// ascending returns n terms that are right, with gaps between their variables.
func ascending(n int) []api.Term {
	var l []api.Term
	for i := range n {
		l = append(l, api.Term{Var: 2*i + 1, Coef: raw(strconv.Itoa(i+1) + "/1")})
	}
	return l
}

// wrongs are fractions that are not right.
func wrongs() []api.Frac {
	one, none := digits(1, 1), api.Big{}
	l := []api.Frac{{}, {P: one}}
	for _, s := range []string{"2/4", "-2/4", "2/2", "4/2", "6/9", "0/2", "0/-1", "0/0", "1/0", "-1/0", "1/-1", "-1/-1", "1/-2", "-3/-2", "2000000000000000000000000000000/4", "4/2000000000000000000000000000000", "3/-1000000000000000000000000000000"} {
		l = append(l, raw(s))
	}
	for _, w := range []api.Big{digits(2, 1), digits(-2, 1), digits(1, top+1), digits(1, 1, top+1), digits(1, -1), digits(-1, -1, 1), digits(1, 0), digits(1, 1, 0), digits(-1, 7, 0), digits(0, 1), digits(0, 0), digits(1), digits(-1)} {
		l = append(l, parts(w, one), parts(one, w), parts(none, w), parts(w, w))
	}
	return l
}

// rights are fractions that are right, of several sizes.
func rights() []api.Frac {
	l := []api.Frac{parts(digits(0, []int{}...), digits(1, 1))}
	for _, s := range []string{"0", "1", "-1", "2", "1/2", "-1/3", "7/3", "1048575/1048576", "-9223372036854775808", "1/9223372036854775808", "123456789012345678901234567891/1000000000000000000000000000000", "-340282366920938463463374607431768211456/7"} {
		l = append(l, raw(s))
	}
	return l
}

func equalBig(a, b api.Big) bool { return a.Sign == b.Sign && slices.Equal(a.Digits, b.Digits) }

func equal(a, b api.Frac) bool { return equalBig(a.P, b.P) && equalBig(a.Q, b.Q) }

func equalTerms(a, b []api.Term) bool {
	return slices.EqualFunc(a, b, func(t, u api.Term) bool { return t.Var == u.Var && equal(t.Coef, u.Coef) })
}

// showBig returns an integer as text, right or not.
func showBig(a api.Big) string {
	n := new(gobig.Int)
	for _, d := range slices.Backward(a.Digits) {
		n.Add(n.Lsh(n, 20), gobig.NewInt(int64(d)))
	}
	n.Mul(n, gobig.NewInt(int64(a.Sign)))
	if !equalBig(ofInt(n), a) {
		return "(not right)" + n.String()
	}
	return n.String()
}

func showFrac(f api.Frac) string { return showBig(f.P) + "/" + showBig(f.Q) }

func showAll(x []api.Frac) string {
	var l []string
	for _, f := range x {
		l = append(l, showFrac(f))
	}
	return "(" + strings.Join(l, " ") + ")"
}

func show(l []api.Term) string {
	var s []string
	for _, t := range l {
		s = append(s, strconv.Itoa(t.Var)+":"+showFrac(t.Coef))
	}
	return "(" + strings.Join(s, " ") + ")"
}

// The model: terms are a map from variables to coefficients, and points are lists, with Go's own package for fractions.

type model map[int]*gobig.Rat

// list returns the terms of a model, by the definition.
func (m model) list() []api.Term {
	var l []api.Term
	for v, coef := range m {
		if coef.Sign() != 0 {
			l = append(l, api.Term{Var: v, Coef: of(coef)})
		}
	}
	slices.SortFunc(l, func(t, u api.Term) int { return t.Var - u.Var })
	return l
}

func (m model) at(x []*gobig.Rat) *gobig.Rat {
	sum := new(gobig.Rat)
	for v, coef := range m {
		sum.Add(sum, new(gobig.Rat).Mul(coef, x[v]))
	}
	return sum
}

func (m model) plus(o model) model {
	sum := model{}
	for v, coef := range m {
		sum[v] = coef
	}
	for v, coef := range o {
		if before, is := sum[v]; is {
			coef = new(gobig.Rat).Add(before, coef)
		}
		sum[v] = coef
	}
	return sum
}

func (m model) times(f *gobig.Rat) model {
	product := model{}
	for v, coef := range m {
		product[v] = new(gobig.Rat).Mul(coef, f)
	}
	return product
}

func ofAll(x []*gobig.Rat) []api.Frac {
	var l []api.Frac
	for _, f := range x {
		l = append(l, of(f))
	}
	return l
}

// some returns a fraction whose parts have up to so many bits; it is often 0, or of few digits.
func some(r *rand.Rand, most int) *gobig.Rat {
	switch r.Intn(6) {
	case 0:
		return new(gobig.Rat)
	case 1, 2:
		return gobig.NewRat(int64(r.Intn(9)-4), int64(1+r.Intn(4)))
	}
	part := func() *gobig.Int {
		return new(gobig.Int).Rand(r, new(gobig.Int).Lsh(gobig.NewInt(1), uint(1+r.Intn(most))))
	}
	f := new(gobig.Rat).SetFrac(part(), new(gobig.Int).Add(part(), gobig.NewInt(1)))
	if r.Intn(2) == 0 {
		f.Neg(f)
	}
	return f
}

// someTerms returns terms over n variables.
func someTerms(r *rand.Rand, n, most int) model {
	m := model{}
	for range r.Intn(n + 1) {
		m[r.Intn(n)] = some(r, most)
	}
	return m
}

// somePoint returns n fractions that are not negative.
func somePoint(r *rand.Rand, n, most int) []*gobig.Rat {
	x := make([]*gobig.Rat, n)
	for i := range x {
		x[i] = some(r, most)
		x[i].Abs(x[i])
	}
	return x
}

func TestAgainstTheModel(t *testing.T) {
	r := rand.New(rand.NewSource(1))
	for i := range 4000 {
		n, most := 1+i%9, 1+i%170
		a, b, f := someTerms(r, n, most), someTerms(r, n, most), some(r, most)
		x := somePoint(r, n, most)
		for k := range x {
			if r.Intn(3) == 0 {
				x[k].Neg(x[k])
			}
		}
		if !linear.RightTerms(a.list(), n) {
			t.Fatalf("%s is not right for %d variables", show(a.list()), n)
		}
		termsAre(t, "Plus of "+show(a.list())+" and "+show(b.list()), linear.Plus(a.list(), b.list()), a.plus(b).list())
		termsAre(t, show(a.list())+" times "+f.String(), linear.Times(a.list(), of(f)), a.times(f).list())
		valueIs(t, a.list(), ofAll(x), a.at(x).RatString())
	}
}

func TestAllShortLists(t *testing.T) {
	// All lists of variables from -1 to 3, with up to three terms.
	lists := [][]int{{}}
	for begin := 0; len(lists[begin]) < 3; begin++ {
		for v := -1; v <= 3; v++ {
			lists = append(lists, append(slices.Clone(lists[begin]), v))
		}
	}
	for _, vars := range lists {
		l, up := []api.Term{}, true
		for i, v := range vars {
			l = append(l, api.Term{Var: v, Coef: raw(strconv.Itoa(i + 1))})
			up = up && v >= 0 && (i == 0 || v > vars[i-1])
		}
		for n := -2; n <= 5; n++ {
			want := up && n >= 0 && (len(vars) == 0 || slices.Max(vars) < n)
			if linear.RightTerms(l, n) != want || linear.Right(system(n, api.Row{Terms: l, Kind: api.RoEqual, Value: raw("0")})) != want {
				t.Errorf("RightTerms, or Right, of the variables %v for %d variables is not %t", vars, n, want)
			}
			if n >= 0 {
				if _, is := linear.Value(l, zeros(n)); is != want {
					t.Errorf("Value of the variables %v at %d variables: %t", vars, n, is)
				}
			}
		}
		want := l
		if !up {
			want = nil
		}
		termsAre(t, "Plus of "+show(l)+" and nothing", linear.Plus(l, nil), want)
		termsAre(t, "Plus of nothing and "+show(l), linear.Plus(nil, l), want)
		termsAre(t, show(l)+" times 1", linear.Times(l, raw("1")), want)
	}
}

// someRow returns a row that often holds at x exactly, or just not.
func someRow(r *rand.Rand, x []*gobig.Rat, most int) (api.Row, bool) {
	m := someTerms(r, len(x), most)
	value := new(gobig.Rat).Set(m.at(x))
	switch r.Intn(4) {
	case 0:
		value.Add(value, new(gobig.Rat).SetFrac(gobig.NewInt(int64(r.Intn(3)-1)), new(gobig.Int).Lsh(gobig.NewInt(1), uint(r.Intn(most+1)))))
	case 1:
		value = some(r, most)
	}
	kind, order := r.Intn(api.RoKinds), m.at(x).Cmp(value)
	holds := order == 0 || kind == api.RoLeast && order > 0 || kind == api.RoMost && order < 0
	return api.Row{Terms: m.list(), Kind: kind, Value: of(value)}, holds
}

func TestHoldsAgainstTheModel(t *testing.T) {
	r := rand.New(rand.NewSource(2))
	seen := map[bool]int{}
	for i := range 4000 {
		n, most := 1+i%7, 1+i%130
		x := somePoint(r, n, most)
		s, want := system(n), true
		for range r.Intn(5) {
			w, holds := someRow(r, x, most)
			s.Rows, want = append(s.Rows, w), want && holds
		}
		if !linear.Right(s) || linear.Holds(s, ofAll(x)) != want {
			t.Fatalf("Holds of %v at %s is %t", s, showAll(ofAll(x)), !want)
		}
		k := r.Intn(n)
		if x[k].Sign() == 0 {
			x[k].SetInt64(1)
		}
		x[k].Neg(x[k])
		if linear.Holds(s, ofAll(x)) {
			t.Fatalf("%v holds at %s, one of which is negative", s, showAll(ofAll(x)))
		}
		seen[want]++
	}
	if seen[true] < 500 || seen[false] < 500 {
		t.Errorf("too few cases: %v", seen)
	}
}

func TestValuesOfManyDigits(t *testing.T) {
	// The sum of 1/i^k: each term brings new divisors of the denominator.
	for _, n := range []int{1, 2, 3, 10, 100, 400} {
		m, x := model{}, make([]*gobig.Rat, n)
		for i := range n {
			m[i] = new(gobig.Rat).SetFrac(gobig.NewInt(int64(1-2*(i%2))), gobig.NewInt(int64(i+1)))
			x[i] = new(gobig.Rat).SetFrac(gobig.NewInt(int64(n+i)), new(gobig.Int).Exp(gobig.NewInt(int64(2*i+1)), gobig.NewInt(3), nil))
		}
		want := m.at(x)
		valueIs(t, m.list(), ofAll(x), want.RatString())
		just := new(gobig.Rat).SetFrac(gobig.NewInt(1), want.Denom())
		for d, holds := range map[int64]bool{-1: true, 0: true, 1: false} {
			value := new(gobig.Rat).Add(want, new(gobig.Rat).Mul(just, gobig.NewRat(d, 1)))
			if linear.Holds(system(n, api.Row{Terms: m.list(), Kind: api.RoLeast, Value: of(value)}), ofAll(x)) != holds {
				t.Errorf("a row of %d terms and a value that differs by %d / Q: %t", n, d, !holds)
			}
		}
	}
}

func TestValueOfManyLongTerms(t *testing.T) {
	// 1500 denominators of 60 bits, few of them with common divisors, make one of about 90000 bits; this must not take minutes.
	r := rand.New(rand.NewSource(3))
	m, x := model{}, make([]*gobig.Rat, api.MaxVars)
	p, q := new(gobig.Int), gobig.NewInt(1)
	for i := range x {
		m[i] = new(gobig.Rat).SetFrac(gobig.NewInt(1+r.Int63n(1<<60)), gobig.NewInt(1+r.Int63n(1<<60)))
		x[i] = gobig.NewRat(1+r.Int63n(1<<20), 1)
		product := new(gobig.Rat).Mul(m[i], x[i])
		p.Add(p.Mul(p, product.Denom()), new(gobig.Int).Mul(product.Num(), q))
		q.Mul(q, product.Denom())
	}
	if got, is := linear.Value(m.list(), ofAll(x)); !is || !equal(got, of(new(gobig.Rat).SetFrac(p, q))) {
		t.Error("the value of many long terms is wrong")
	}
}

// P8.4

// spareBig is an integer whose slice has elements beyond its length; they must be neither read nor written.
func spareBig(a api.Big) api.Big {
	n := len(a.Digits)
	return api.Big{Sign: a.Sign, Digits: append(slices.Clone(a.Digits), 1, -5, top+1)[:n]}
}

func spareFrac(f api.Frac) api.Frac { return parts(spareBig(f.P), spareBig(f.Q)) }

// spareAll is a list of fractions with elements beyond its length.
func spareAll(x []api.Frac) []api.Frac {
	var l []api.Frac
	for _, f := range x {
		l = append(l, spareFrac(f))
	}
	return append(l, raw("2/4"), raw("77"))[:len(x)]
}

// spareTerms is a list of terms with elements beyond its length.
func spareTerms(l []api.Term) []api.Term {
	var out []api.Term
	for _, t := range l {
		out = append(out, api.Term{Var: t.Var, Coef: spareFrac(t.Coef)})
	}
	return append(out, api.Term{Var: -3, Coef: raw("2/4")}, api.Term{Var: 1, Coef: raw("77")})[:len(l)]
}

func spareSystem(s api.System) api.System {
	out := api.System{N: s.N}
	for _, w := range s.Rows {
		out.Rows = append(out.Rows, api.Row{Terms: spareTerms(w.Terms), Kind: w.Kind, Value: spareFrac(w.Value)})
	}
	return api.System{N: s.N, Rows: append(out.Rows, api.Row{Kind: -9, Value: raw("77")})[:len(s.Rows)]}
}

func cleanBig(a, b api.Big) bool {
	n := len(a.Digits)
	return equalBig(a, b) && slices.Equal(a.Digits[n:n+3], []int{1, -5, top + 1})
}

// cleanFrac reports whether a fraction made by spareFrac is as it was; the following functions report it for lists.
func cleanFrac(a, b api.Frac) bool { return cleanBig(a.P, b.P) && cleanBig(a.Q, b.Q) }

func cleanAll(a, b []api.Frac) bool {
	n := len(a)
	return slices.EqualFunc(a, b, cleanFrac) && equal(a[:n+2][n], raw("2/4")) && equal(a[:n+2][n+1], raw("77"))
}

func cleanTerms(a, b []api.Term) bool {
	n := len(a)
	is := slices.EqualFunc(a, b, func(t, u api.Term) bool { return t.Var == u.Var && cleanFrac(t.Coef, u.Coef) })
	return is && a[:n+2][n].Var == -3 && equal(a[:n+2][n].Coef, raw("2/4")) && a[:n+2][n+1].Var == 1 && equal(a[:n+2][n+1].Coef, raw("77"))
}

func cleanSystem(a, b api.System) bool {
	n := len(a.Rows)
	is := slices.EqualFunc(a.Rows, b.Rows, func(w, v api.Row) bool {
		return w.Kind == v.Kind && cleanTerms(w.Terms, v.Terms) && cleanFrac(w.Value, v.Value)
	})
	return is && a.N == b.N && a.Rows[:n+1][n].Kind == -9 && equal(a.Rows[:n+1][n].Value, raw("77"))
}

// spoil fills each of the slices, up to its capacity, with a number of its own, and reports whether they keep them: whether no two of them share memory.
func spoil(slicesOf ...[]int) bool {
	for i, d := range slicesOf {
		d = d[:cap(d)]
		for k := range d {
			d[k] = -1 - i
		}
	}
	for i, d := range slicesOf {
		for _, n := range d[:cap(d)] {
			if n != -1-i {
				return false
			}
		}
	}
	return true
}

// spoilTerms spoils the digits of terms, then the terms, up to the capacity.
func spoilTerms(l []api.Term) bool {
	var all [][]int
	for _, t := range l {
		all = append(all, t.Coef.P.Digits, t.Coef.Q.Digits)
	}
	is := spoil(all...)
	l = l[:cap(l)]
	for i := range l {
		l[i] = api.Term{Var: -7}
	}
	return is
}

// lists are terms that are right, with common variables and others, of small and of long coefficients, for 6 variables.
func lists() [][]api.Term {
	var l [][]api.Term
	for _, s := range []string{
		"", "0:1", "0:-1", "5:1", "0:2 2:-1", "0:-2 2:1", "1:1 3:1 5:1", "0:1/2 1:1/3 2:1/5 3:1/7 4:1/11 5:1/13", "0:123456789012345678901234567891/7 3:-1", "1:340282366920938463463374607431768211456 2:1/340282366920938463463374607431768211456 5:1", "3:1 4:1", "0:1 1:1 2:1 3:1 4:1 5:1",
	} {
		l = append(l, terms(s))
	}
	return l
}

func TestMemoryOfPlus(t *testing.T) {
	for _, x := range append(lists(), wrongTerms()...) {
		for _, y := range append(lists(), wrongTerms()...) {
			a, b := spareTerms(x), spareTerms(y)
			want := linear.Plus(x, y)
			if !spoilTerms(linear.Plus(a, b)) || !cleanTerms(a, x) || !cleanTerms(b, y) {
				t.Fatalf("Plus of %s and %s changes an argument, or shares memory", show(x), show(y))
			}
			l := linear.Plus(a, b)
			spoilTerms(a)
			spoilTerms(b)
			if !equalTerms(l, want) {
				t.Fatalf("Plus of %s and %s is another one the second time, or shares memory with an argument", show(x), show(y))
			}
		}
		a := spareTerms(x)
		if !spoilTerms(linear.Plus(a, a)) || !cleanTerms(a, x) {
			t.Fatalf("Plus of %s and the same slice changes it, or shares memory with it", show(x))
		}
		termsAre(t, "Plus of the same slice twice", linear.Plus(a, a), linear.Plus(x, spareTerms(x)))
	}
}

func TestMemoryOfTimes(t *testing.T) {
	for _, x := range append(lists(), wrongTerms()...) {
		for _, y := range append(rights(), wrongs()...) {
			a, f := spareTerms(x), spareFrac(y)
			want := linear.Times(x, y)
			if !spoilTerms(linear.Times(a, f)) || !cleanTerms(a, x) || !cleanFrac(f, y) {
				t.Fatalf("%s times %s changes an argument, or shares memory", show(x), showFrac(y))
			}
			l := linear.Times(a, f)
			spoilTerms(a)
			spoil(f.P.Digits, f.Q.Digits)
			if !equalTerms(l, want) {
				t.Fatalf("%s times %s is another one the second time, or shares memory with an argument", show(x), showFrac(y))
			}
		}
	}
}

func TestMemoryOfValue(t *testing.T) {
	for _, x := range append(lists(), wrongTerms()...) {
		for _, y := range []string{"0 0 0 0 0 0", "1 1 1 1 1 1", "1/2 1/3 1/5 0 -1 7", "340282366920938463463374607431768211456 1 1/340282366920938463463374607431768211456 1 2 3", "1 1 1 1 1 2/4", "1"} {
			l, p := spareTerms(x), spareAll(point(y))
			want, is := linear.Value(x, point(y))
			got, _ := linear.Value(l, p)
			if !spoil(got.P.Digits, got.Q.Digits) || !cleanTerms(l, x) || !cleanAll(p, point(y)) {
				t.Fatalf("Value of %s at %s changes an argument, or shares memory", show(x), y)
			}
			again, still := linear.Value(l, p)
			spoilTerms(l)
			for _, f := range p {
				spoil(f.P.Digits, f.Q.Digits)
			}
			if !equal(again, want) || still != is {
				t.Fatalf("Value of %s at %s is another one the second time, or shares memory with an argument", show(x), y)
			}
		}
	}
}

func TestArgumentsStayAsTheyAre(t *testing.T) {
	ok := row("0:1/2 2:-1", api.RoLeast, "-1")
	for _, s := range append([]api.System{system(3), system(3, ok), system(3, ok, row("", api.RoMost, "0"), ok), system(-1, ok), system(2, ok)}, system(3, harms()...)) {
		for _, x := range []string{"0 0 0", "1 1 1", "0 0 340282366920938463463374607431768211456", "1 2/4 1", "1 1", "1 -1 1"} {
			a, p := spareSystem(s), spareAll(point(x))
			first, right := linear.Holds(a, p), linear.Right(a)
			if first != linear.Holds(s, point(x)) || right != linear.Right(s) || first != linear.Holds(a, p) || !cleanSystem(a, s) || !cleanAll(p, point(x)) {
				t.Errorf("Holds or Right of %v at %s depends on what lies beyond the arguments, or changes them", s, x)
			}
		}
	}
	for _, x := range append(lists(), wrongTerms()...) {
		a := spareTerms(x)
		right := linear.RightTerms(a, 6)
		if right != linear.RightTerms(x, 6) || !linear.Same(a, x) || !linear.Same(x, a) || !cleanTerms(a, x) {
			t.Errorf("RightTerms or Same of %s depends on what lies beyond the argument, or changes it", show(x))
		}
	}
}

func TestPartsThatShareTheirDigits(t *testing.T) {
	// Arguments may share memory with each other; results may not.
	d := []int{1}
	one := parts(digits(1, d...), digits(1, d...))
	a := []api.Term{{Var: 0, Coef: one}, {Var: 1, Coef: one}}
	for what, l := range map[string][]api.Term{"Plus": linear.Plus(a, nil), "Plus of nothing": linear.Plus(nil, a), "Plus of others": linear.Plus(a, terms("2:1")), "Times": linear.Times(a, one)} {
		if !spoilTerms(l) || d[0] != 1 {
			t.Errorf("the result of %s shares memory", what)
		}
	}
	v, _ := linear.Value(a[:1], []api.Frac{one})
	zero, _ := linear.Value(nil, nil)
	if !spoil(v.P.Digits, v.Q.Digits, zero.P.Digits, zero.Q.Digits) || d[0] != 1 {
		t.Error("the result of Value shares memory")
	}
	valueIs(t, nil, nil, "0")
	valueIs(t, a, []api.Frac{one, one}, "2")
}

func TestCallsSideBySide(t *testing.T) {
	shared := lists()
	x := point("1/2 1/3 1/5 1/7 2 3")
	var group sync.WaitGroup
	for range 4 {
		group.Go(func() {
			for i, a := range shared {
				b := shared[(i+5)%len(shared)]
				v, _ := linear.Value(linear.Plus(a, b), x)
				p, _ := linear.Value(a, x)
				q, _ := linear.Value(b, x)
				if !equal(v, of(new(gobig.Rat).Add(ratio(p), ratio(q)))) {
					t.Errorf("the sum of %s and %s depends on other calls", show(a), show(b))
				}
			}
		})
	}
	group.Wait()
}

// ratio returns a right fraction's value.
func ratio(f api.Frac) *gobig.Rat {
	return new(gobig.Rat).SetFrac(number(showBig(f.P)), number(showBig(f.Q)))
}
