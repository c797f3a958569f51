package span_test

import (
	"math/rand"
	"slices"
	"testing"

	"kerbside/api"
	"kerbside/frac"
	"kerbside/linear"
	"kerbside/simplex"
	"kerbside/span"
)

// P11.7 to P11.10: the theorems, with the functions of the program alone.

func plus(a, b api.Frac) api.Frac {
	f, _ := frac.Add(a, b)
	return f
}

func product(a, b api.Frac) api.Frac {
	f, _ := frac.Mul(a, b)
	return f
}

// valueAt returns the value of a goal at a point, which there must be.
func valueAt(t *testing.T, goal []api.Term, x []api.Frac) api.Frac {
	t.Helper()
	v, is := linear.Value(goal, x)
	if !is {
		t.Fatalf("%s has no value at %s", show(goal), showAll(x))
	}
	return v
}

// rangeOf returns the range of a goal over a system that has a solution, and whether it has one.
func rangeOf(t *testing.T, s api.System, goal []api.Term) (api.Range, bool) {
	t.Helper()
	r, e := span.Of(s, goal)
	if e == api.ErrUnsat && equalRanges(r, api.Range{}) {
		return r, false
	}
	if e != api.OK || !span.Check(s, goal, r) {
		t.Fatalf("%s, goal %s: Check does not accept %s; %s, error %d", showSystem(s), show(goal), showOptimum(r.Least), showOptimum(r.Most), e)
	}
	return r, true
}

// boundsOf returns the bounds of a goal over a system, and whether it has a solution.
func boundsOf(t *testing.T, s api.System, goal []api.Term) (api.Bounds, bool) {
	t.Helper()
	r, is := rangeOf(t, s, goal)
	if !is {
		return api.Bounds{}, false
	}
	return span.Bounds(r), true
}

// within reports whether bounds are no wider than others.
func within(a, b api.Bounds) bool {
	return (!b.Low || a.Low && frac.Compare(a.Least, b.Least) >= 0) && (!b.High || a.High && frac.Compare(a.Most, b.Most) <= 0)
}

// only returns the bounds of a value alone.
func only(f api.Frac) api.Bounds { return api.Bounds{Least: f, Most: f, Low: true, High: true} }

// problem returns a system, which has a solution in two cases of three, and a goal.
func problem(r *rand.Rand, i int) (api.System, []api.Term) {
	return someSystem(r, i, i%7, r.Intn(8), 2+i%60)
}

// solutions returns some solutions of a system that has one: corners, mixtures of them, and points further along rays.
func solutions(t *testing.T, r *rand.Rand, s api.System) [][]api.Frac {
	t.Helper()
	var l [][]api.Frac
	for range 3 {
		o, _ := simplex.Least(s, someTerms(r, s.N, 20))
		x := o.X
		for v := range o.Ray {
			x[v] = plus(x[v], product(o.Ray[v], raw("1000000007/3")))
		}
		l = append(l, x)
	}
	half := make([]api.Frac, s.N)
	for v := range half {
		half[v] = product(plus(l[0][v], l[1][v]), raw("1/2"))
	}
	l = append(l, half)
	for _, x := range l {
		if !linear.Holds(s, x) {
			t.Fatalf("%s is no solution of %s", showAll(x), showSystem(s))
		}
	}
	return l
}

func TestValuesAreWithinTheBounds(t *testing.T) {
	r := rand.New(rand.NewSource(11))
	for i := range 1000 {
		s, goal := problem(r, i)
		g, is := rangeOf(t, s, goal)
		if !is {
			continue
		}
		b := span.Bounds(g)
		for _, x := range append(solutions(t, r, s), g.Least.X, g.Most.X) {
			if v := valueAt(t, goal, x); !within(only(v), b) {
				t.Fatalf("%s, goal %s, has the bounds %s, and the value %s at %s", showSystem(s), show(goal), showBounds(b), showFrac(v), showAll(x))
			}
		}
		if b.Low && !equal(valueAt(t, goal, g.Least.X), b.Least) || b.High && !equal(valueAt(t, goal, g.Most.X), b.Most) {
			t.Fatalf("%s, goal %s, has the bounds %s, but not at %s and %s", showSystem(s), show(goal), showBounds(b), showAll(g.Least.X), showAll(g.Most.X))
		}
	}
}

// far is greater than all values that play a part.
const far = "1000000000000000000000000000000000000000000000000000000000000000000000000000000000000000000000000000000000000000000000000000000000000000000000000000000000000000000000"

// between returns values from the least to the greatest one; far away, if there is none.
func between(b api.Bounds) []api.Frac {
	least, most := b.Least, b.Most
	if !b.Low && !b.High {
		least, most = raw("-"+far), raw(far)
	} else if !b.Low {
		least = plus(most, raw("-"+far))
	} else if !b.High {
		most = plus(least, raw(far))
	}
	l := []api.Frac{least, most}
	for _, part := range point("1/2 1/1000 " + tiny) {
		l = append(l, plus(product(least, plus(raw("1"), frac.Neg(part))), product(most, part)))
	}
	return l
}

func TestEachValueBetweenTheBoundsIsOneAtASolution(t *testing.T) {
	r := rand.New(rand.NewSource(12))
	var seen [sorts]int
	for i := range 700 {
		s, goal := problem(r, i)
		b, is := boundsOf(t, s, goal)
		if !is {
			seen[0]++
			continue
		}
		seen[sortOf(showBounds(b))]++
		at := api.Row{Terms: goal, Kind: api.RoEqual}
		for _, at.Value = range between(b) {
			x, _, ok := simplex.Solution(with(s, at))
			if !ok || !equal(valueAt(t, goal, x), at.Value) {
				t.Fatalf("%s, goal %s, has the bounds %s, but not the value %s", showSystem(s), show(goal), showBounds(b), showFrac(at.Value))
			}
			certainIs(t, with(s, at), goal, showFrac(at.Value), true)
		}
		// A little beyond the bounds there is nothing.
		if at.Value = plus(b.Least, raw("-"+tiny)); b.Low {
			rangeIs(t, with(s, at), goal, "none")
		}
		if at.Value = plus(b.Most, raw(tiny)); b.High {
			rangeIs(t, with(s, at), goal, "none")
		}
	}
	enough(t, seen, 20)
}

// contradicts reports whether a row contradicts the bounds of its terms.
func contradicts(w api.Row, b api.Bounds) bool {
	below := b.Low && frac.Compare(w.Value, b.Least) < 0
	above := b.High && frac.Compare(w.Value, b.Most) > 0
	return w.Kind != api.RoLeast && below || w.Kind != api.RoMost && above
}

func TestFurtherRows(t *testing.T) {
	r := rand.New(rand.NewSource(13))
	implied, narrower, none := 0, 0, 0
	for i := range 3000 {
		s, goal := problem(r, i)
		w := someRow(r, s.N, 2+i%60)
		b, is := boundsOf(t, s, goal)
		c, solved := boundsOf(t, with(s, w), goal)
		kept, _ := span.Implied(s, w)
		if !is {
			if solved || !kept {
				t.Fatalf("%s has no solution, but %s is not implied, or makes one", showSystem(s), showRow(w))
			}
			continue
		}
		if own, _ := boundsOf(t, s, w.Terms); solved == contradicts(w, own) {
			t.Fatalf("%s, with the further row %s: a solution %t, the bounds %s", showSystem(s), showRow(w), solved, showBounds(own))
		}
		if solved && !within(c, b) || kept && (!solved || !equalBounds(b, c)) {
			t.Fatalf("%s, goal %s: the bounds %s became %s with the further row %s", showSystem(s), show(goal), showBounds(b), showBounds(c), showRow(w))
		}
		switch {
		case kept:
			implied++
		case solved && !equalBounds(b, c):
			narrower++
		case !solved:
			none++
		}
		if is, _ := span.Implied(with(s, w), w); !is {
			t.Fatalf("%s does not imply its row %s", showSystem(with(s, w)), showRow(w))
		}
	}
	if implied < 200 || narrower < 200 || none < 200 {
		t.Errorf("only %d rows are implied, %d make the bounds narrower, and %d leave no solution", implied, narrower, none)
	}
}

func TestRowsAtTheBounds(t *testing.T) {
	// A row at a bound leaves a solution, and just beyond it none; just outside it is implied, and just inside it is not.
	r := rand.New(rand.NewSource(14))
	for i := range 800 {
		s, goal := problem(r, i)
		b, is := boundsOf(t, s, goal)
		if !is {
			continue
		}
		check := func(kind int, end api.Frac, beyond string) {
			for _, by := range point("0 " + beyond) {
				w := api.Row{Terms: goal, Kind: kind, Value: plus(end, by)}
				if _, solved := boundsOf(t, with(s, w), goal); solved != (by.P.Sign == 0) {
					t.Fatalf("%s, with the bounds %s of its terms, and the further row %s: a solution %t", showSystem(s), showBounds(b), showRow(w), solved)
				}
				impliedIs(t, s, api.Row{Terms: goal, Kind: api.RoMost - kind, Value: w.Value}, true)
				w.Value = plus(end, frac.Neg(by))
				impliedIs(t, s, api.Row{Terms: goal, Kind: api.RoMost - kind, Value: w.Value}, by.P.Sign == 0)
			}
		}
		if b.Low {
			check(api.RoMost, b.Least, "-"+tiny)
		}
		if b.High {
			check(api.RoLeast, b.Most, tiny)
		}
	}
}

func TestRowsOfASystemAreImplied(t *testing.T) {
	r := rand.New(rand.NewSource(15))
	for i := range 700 {
		s, goal := problem(r, i)
		for k, w := range s.Rows {
			impliedIs(t, s, w, true)
			for _, u := range implications(w) {
				impliedIs(t, s, u, true)
			}
			// Without a row that the others imply the bounds stay as they are.
			rest := api.System{N: s.N, Rows: slices.Delete(slices.Clone(s.Rows), k, k+1)}
			if is, _ := span.Implied(rest, w); is {
				b, solved := boundsOf(t, s, goal)
				c, still := boundsOf(t, rest, goal)
				if solved != still || !equalBounds(b, c) {
					t.Fatalf("%s, goal %s: without the row %s, which is implied, the bounds are %s instead of %s", showSystem(s), show(goal), showRow(w), showBounds(c), showBounds(b))
				}
			}
		}
	}
}

// implications returns rows that a row implies: products, and those that allow a little more.
func implications(w api.Row) []api.Row {
	l := []api.Row{{Terms: linear.Times(w.Terms, raw("7/3")), Kind: w.Kind, Value: product(w.Value, raw("7/3"))}}
	turned := []int{api.RoMost, api.RoLeast, api.RoEqual}[w.Kind]
	l = append(l, api.Row{Terms: linear.Times(w.Terms, raw("-1/5")), Kind: turned, Value: product(w.Value, raw("-1/5"))})
	if w.Kind != api.RoMost {
		l = append(l, api.Row{Terms: w.Terms, Kind: api.RoLeast, Value: plus(w.Value, raw("-"+tiny))})
	}
	if w.Kind != api.RoLeast {
		l = append(l, api.Row{Terms: w.Terms, Kind: api.RoMost, Value: plus(w.Value, raw(tiny))})
	}
	return l
}

// timesBounds returns bounds times a fraction that is not 0.
func timesBounds(b api.Bounds, f api.Frac) api.Bounds {
	if f.P.Sign < 0 {
		b = api.Bounds{Least: b.Most, Most: b.Least, Low: b.High, High: b.Low}
	}
	if b.Low {
		b.Least = product(b.Least, f)
	}
	if b.High {
		b.Most = product(b.Most, f)
	}
	return b
}

func TestProductsOfGoals(t *testing.T) {
	r := rand.New(rand.NewSource(16))
	for i := range 700 {
		s, goal := problem(r, i)
		b, is := boundsOf(t, s, goal)
		if !is {
			continue
		}
		for _, f := range append(point("-1 1 -7/3 1000 "+tiny+" -"+far), of(some(r, 80))) {
			c, _ := boundsOf(t, s, linear.Times(goal, f))
			want := timesBounds(b, f)
			if f.P.Sign == 0 {
				want = only(raw("0"))
			}
			if !equalBounds(c, want) {
				t.Fatalf("%s, goal %s, has the bounds %s, and times %s %s", showSystem(s), show(goal), showBounds(b), showFrac(f), showBounds(c))
			}
		}
		// The certificates of the opposite are exchanged, too.
		g, _ := span.Of(s, goal)
		h, _ := span.Of(s, opposite(goal))
		if !span.Check(s, opposite(goal), api.Range{Least: g.Most, Most: g.Least}) || !span.Check(s, goal, api.Range{Least: h.Most, Most: h.Least}) {
			t.Fatalf("%s, goal %s: the certificates of the opposite are not those of the goal, exchanged", showSystem(s), show(goal))
		}
	}
}

func TestSumsOfGoals(t *testing.T) {
	r := rand.New(rand.NewSource(17))
	just, narrower := 0, 0
	for i := range 1500 {
		s, goal := problem(r, i)
		other := someTerms(r, s.N, 2+i%60)
		b, is := boundsOf(t, s, goal)
		c, _ := boundsOf(t, s, other)
		d, _ := boundsOf(t, s, linear.Plus(goal, other))
		if !is {
			continue
		}
		all := api.Bounds{Low: b.Low && c.Low, High: b.High && c.High}
		if all.Low {
			all.Least = plus(b.Least, c.Least)
		}
		if all.High {
			all.Most = plus(b.Most, c.Most)
		}
		if !within(d, all) {
			t.Fatalf("%s: the bounds %s of %s and %s of %s are %s together", showSystem(s), showBounds(b), show(goal), showBounds(c), show(other), showBounds(d))
		}
		if equalBounds(d, all) {
			just++
		} else {
			narrower++
		}
	}
	if just < 100 || narrower < 100 {
		t.Errorf("only %d sums have the sums of the bounds, and %d narrower ones", just, narrower)
	}
}

func TestCertainGoals(t *testing.T) {
	r := rand.New(rand.NewSource(18))
	seen := 0
	for i := range 1000 {
		s, goal := problem(r, i)
		b, is := boundsOf(t, s, goal)
		same := is && b.Low && b.High && equal(b.Least, b.Most)
		certainIs(t, s, goal, showFrac(b.Least), same)
		if !is {
			continue
		}
		if same {
			seen++
		}
		for _, x := range solutions(t, r, s) {
			at := api.Row{Terms: goal, Kind: api.RoEqual, Value: valueAt(t, goal, x)}
			certainIs(t, with(s, at), goal, showFrac(at.Value), true)
			if same && !equal(at.Value, b.Least) {
				t.Fatalf("%s, goal %s, is certain, but %s at %s", showSystem(s), show(goal), showFrac(at.Value), showAll(x))
			}
		}
	}
	if seen < 100 {
		t.Errorf("only %d goals are certain", seen)
	}
}
