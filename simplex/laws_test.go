package simplex_test

import (
	gobig "math/big"
	"math/rand"
	"slices"
	"testing"

	"kerbside/api"
	"kerbside/dual"
	"kerbside/frac"
	"kerbside/linear"
)

// P10.4 to P10.7: the theorems, with the functions of the program alone.

func sum(a, b api.Frac) api.Frac {
	f, _ := frac.Add(a, b)
	return f
}

func product(a, b api.Frac) api.Frac {
	f, _ := frac.Mul(a, b)
	return f
}

// value returns the value of a goal at a point, which there must be.
func value(t *testing.T, goal []api.Term, x []api.Frac) api.Frac {
	t.Helper()
	v, is := linear.Value(goal, x)
	if !is {
		t.Fatalf("%s has no value at %s", show(goal), showAll(x))
	}
	return v
}

// further returns a point and a multiple of a direction.
func further(x, d []api.Frac, f api.Frac) []api.Frac {
	l := make([]api.Frac, len(x))
	for v := range l {
		l[v] = sum(x[v], product(d[v], f))
	}
	return l
}

// someProblem returns a system, which has a solution in two cases of three, and a goal.
func someProblem(r *rand.Rand, i int) (api.System, []api.Term) {
	n, rows, most := i%7, r.Intn(9), 2+i%60
	s := someSystem(r, n, rows, most)
	if i%3 > 0 {
		s, _ = someSolved(r, n, rows, most)
	}
	return s, someTerms(r, n, most)
}

// positive returns a fraction greater than 0.
func positive(r *rand.Rand) api.Frac {
	f := some(r, 40)
	if f.Sign() == 0 {
		f.SetInt64(7)
	}
	return of(f.Abs(f))
}

// with returns a system with a further row.
func with(s api.System, w api.Row) api.System {
	return api.System{N: s.N, Rows: append(slices.Clone(s.Rows), w)}
}

// mixed returns a system and a goal with rows and variables in another order, and these orders.
func mixed(r *rand.Rand, s api.System, goal []api.Term) (api.System, []api.Term, []int, []int) {
	variables, rows := r.Perm(s.N), r.Perm(len(s.Rows))
	moved := func(l []api.Term) []api.Term {
		var out []api.Term
		for v, from := range variables {
			for _, u := range l {
				if u.Var == from {
					out = append(out, api.Term{Var: v, Coef: u.Coef})
				}
			}
		}
		return out
	}
	out := api.System{N: s.N}
	for _, i := range rows {
		out.Rows = append(out.Rows, api.Row{Terms: moved(s.Rows[i].Terms), Kind: s.Rows[i].Kind, Value: s.Rows[i].Value})
	}
	return out, moved(goal), variables, rows
}

// back returns a list in the order that it had before.
func back(x []api.Frac, order []int) []api.Frac {
	if len(x) == 0 {
		return nil
	}
	l := make([]api.Frac, len(x))
	for i, from := range order {
		l[from] = x[i]
	}
	return l
}

func TestOneKindAndOneValue(t *testing.T) {
	r := rand.New(rand.NewSource(11))
	seen := [api.OpKinds]int{}
	for i := range 2000 {
		s, goal := someProblem(r, i)
		o := best(t, s, goal)
		seen[o.Kind]++
		other, otherGoal, variables, rows := mixed(r, s, goal)
		p := best(t, other, otherGoal)
		p.X, p.Y, p.Ray = back(p.X, variables), back(p.Y, rows), back(p.Ray, variables)
		if p.Kind != o.Kind || !equal(p.Value, o.Value) || !dual.Check(s, goal, p) {
			t.Fatalf("Least of %s is %s, and in another order %s", showSystem(s, goal), showOptimum(o), showOptimum(p))
		}
		for kind := range api.OpKinds {
			q := o
			if q.Kind = kind; dual.Check(s, goal, q) != (kind == o.Kind) {
				t.Fatalf("Check of %s accepts %s with the kind %d", showSystem(s, goal), showOptimum(o), kind)
			}
		}
		for _, f := range point("1 -1/1000000000000000000000000000000") {
			q := o
			q.Value = f
			if o.Kind == api.OpFound {
				q.Value = sum(o.Value, f)
			}
			if dual.Check(s, goal, q) {
				t.Fatalf("Check of %s accepts %s with the value %s", showSystem(s, goal), showOptimum(o), showFrac(q.Value))
			}
		}
	}
	for kind, n := range seen {
		if n < 200 {
			t.Errorf("the kind %d only %d times", kind, n)
		}
	}
}

func TestNoSolutionIsBetter(t *testing.T) {
	r := rand.New(rand.NewSource(12))
	for i := range 1000 {
		n, most := 1+i%6, 2+i%60
		s, x := someSolved(r, n, r.Intn(9), most)
		goal := someTerms(r, n, most)
		o := best(t, s, goal)
		points := [][]api.Frac{x, o.X}
		for range 3 {
			points = append(points, best(t, s, someTerms(r, n, most)).X)
		}
		half := raw("1/2")
		for _, p := range points {
			for _, q := range points {
				x := further(further(slices.Repeat(point("0"), n), p, half), q, half)
				if !linear.Holds(s, x) || o.Kind == api.OpFound && frac.Compare(value(t, goal, x), o.Value) < 0 {
					t.Fatalf("Least of %s is %s, and there is %s", showSystem(s, goal), showOptimum(o), showAll(x))
				}
				if o.Kind == api.OpFree {
					leadsDown(t, s, goal, x, o.Ray)
				}
			}
		}
	}
}

// leadsDown checks that a ray leads from a solution to others with lesser values.
func leadsDown(t *testing.T, s api.System, goal []api.Term, x, d []api.Frac) {
	t.Helper()
	for _, f := range point("1/1000 1 1000000000000000000000000000000") {
		y := further(x, d, f)
		if !linear.Holds(s, y) || frac.Compare(value(t, goal, y), value(t, goal, x)) >= 0 {
			t.Fatalf("%s: the ray %s leads from %s to %s", showSystem(s, goal), showAll(d), showAll(x), showAll(y))
		}
		x = y
	}
}

func TestFurtherRows(t *testing.T) {
	r := rand.New(rand.NewSource(13))
	kept, left := 0, 0
	for i := range 3000 {
		s, goal := someProblem(r, i)
		o := best(t, s, goal)
		w := someSystem(r, s.N, 1, 2+i%60).Rows[0]
		p := best(t, with(s, w), goal)
		keeps := o.Kind == api.OpFound && linear.Holds(api.System{N: s.N, Rows: []api.Row{w}}, o.X)
		wrong := false
		switch {
		case o.Kind == api.OpNone:
			wrong = p.Kind != api.OpNone
		case keeps:
			kept++
			wrong = p.Kind != api.OpFound || !equal(p.Value, o.Value)
		case o.Kind == api.OpFound:
			left++
			wrong = p.Kind == api.OpFree || p.Kind == api.OpFound && frac.Compare(p.Value, o.Value) < 0
		}
		if wrong {
			t.Fatalf("Least of %s is %s, and with the further row it was %s", showSystem(with(s, w), goal), showOptimum(p), showOptimum(o))
		}
	}
	if kept < 200 || left < 200 {
		t.Errorf("only %d rows hold at the best solution, and %d do not", kept, left)
	}
}

func TestPositiveMultiples(t *testing.T) {
	r := rand.New(rand.NewSource(14))
	for i := range 1500 {
		s, goal := someProblem(r, i)
		o := best(t, s, goal)
		multiples := api.System{N: s.N}
		for _, w := range s.Rows {
			f := positive(r)
			multiples.Rows = append(multiples.Rows, api.Row{Terms: linear.Times(w.Terms, f), Kind: w.Kind, Value: product(w.Value, f)})
		}
		if p := best(t, multiples, goal); p.Kind != o.Kind || !equal(p.Value, o.Value) {
			t.Fatalf("Least of %s is %s, and that of %s is %s", showSystem(s, goal), showOptimum(o), showSystem(multiples, goal), showOptimum(p))
		}
		f := positive(r)
		p := best(t, s, linear.Times(goal, f))
		if p.Kind != o.Kind || o.Kind == api.OpFound && !equal(p.Value, product(o.Value, f)) {
			t.Fatalf("Least of %s is %s, and with the goal times %s it is %s", showSystem(s, goal), showOptimum(o), showFrac(f), showOptimum(p))
		}
	}
}

// dualOf returns the system and the goal of the multipliers that prove a bound: a variable for those of a row that are not negative, and one for the opposites of those that are not positive.
// Its goal is the opposite of the bound.
func dualOf(s api.System, goal []api.Term) (api.System, []api.Term) {
	columns := make([][]api.Term, s.N)
	var values []api.Term
	n := 0
	add := func(w api.Row, sign api.Frac) {
		for _, u := range linear.Times(w.Terms, sign) {
			columns[u.Var] = append(columns[u.Var], api.Term{Var: n, Coef: u.Coef})
		}
		if f := product(w.Value, sign); frac.Sign(f) != 0 {
			values = append(values, api.Term{Var: n, Coef: frac.Neg(f)})
		}
		n++
	}
	for _, w := range s.Rows {
		if w.Kind != api.RoMost {
			add(w, raw("1"))
		}
		if w.Kind != api.RoLeast {
			add(w, raw("-1"))
		}
	}
	out := api.System{N: n}
	for v, l := range columns {
		w := api.Row{Terms: l, Kind: api.RoMost, Value: raw("0")}
		for _, u := range goal {
			if u.Var == v {
				w.Value = u.Coef
			}
		}
		out.Rows = append(out.Rows, w)
	}
	return out, values
}

func TestDuality(t *testing.T) {
	r := rand.New(rand.NewSource(15))
	seen := map[[2]int]int{}
	for i := range 2000 {
		s, goal := someProblem(r, i)
		o := best(t, s, goal)
		other, bound := dualOf(s, goal)
		p := best(t, other, bound)
		seen[[2]int{o.Kind, p.Kind}]++
		if o.Kind == api.OpFound && (p.Kind != api.OpFound || !equal(p.Value, frac.Neg(o.Value))) || o.Kind == api.OpFree && p.Kind != api.OpNone || o.Kind == api.OpNone && p.Kind == api.OpFound {
			t.Fatalf("Least of %s is %s, and the greatest bound %s", showSystem(s, goal), showOptimum(o), showOptimum(p))
		}
	}
	for _, kinds := range [][2]int{{api.OpFound, api.OpFound}, {api.OpFree, api.OpNone}, {api.OpNone, api.OpFree}, {api.OpNone, api.OpNone}} {
		if seen[kinds] < 10 {
			t.Errorf("only %d systems of the kinds %v", seen[kinds], kinds)
		}
	}
}

func TestValuesBelowAndAboveTheLeast(t *testing.T) {
	// There is a solution with exactly the least value, and none with less, however little.
	r := rand.New(rand.NewSource(16))
	for i := range 600 {
		s, goal := someProblem(r, i)
		o := best(t, s, goal)
		if o.Kind != api.OpFound {
			continue
		}
		at := api.Row{Terms: goal, Kind: api.RoMost, Value: o.Value}
		if p := best(t, with(s, at), someTerms(r, s.N, 20)); p.Kind == api.OpNone {
			t.Fatalf("Least of %s is %s, and no solution has at most this value", showSystem(s, goal), showOptimum(o))
		}
		tiny := new(gobig.Rat).SetFrac(gobig.NewInt(-1), new(gobig.Int).Lsh(gobig.NewInt(1), uint(i)))
		at.Value = sum(at.Value, of(tiny))
		if p := best(t, with(s, at), someTerms(r, s.N, 20)); p.Kind != api.OpNone {
			t.Fatalf("Least of %s is %s, and %s has at most %s", showSystem(s, goal), showOptimum(o), showAll(p.X), showFrac(at.Value))
		}
	}
}
