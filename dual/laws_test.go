package dual_test

import (
	gobig "math/big"
	"math/rand"
	"slices"
	"testing"

	"kerbside/api"
	"kerbside/dual"
	"kerbside/frac"
	"kerbside/linear"
)

// P9.7 to P9.11: the theorems, with the functions of the program alone.

// value returns the value of terms, which there must be.
func value(t *testing.T, l []api.Term, x []api.Frac) api.Frac {
	t.Helper()
	v, is := linear.Value(l, x)
	if !is {
		t.Fatalf("%s has no value at %s", show(l), showAll(x))
	}
	return v
}

func sum(a, b api.Frac) api.Frac {
	f, _ := frac.Add(a, b)
	return f
}

func product(a, b api.Frac) api.Frac {
	f, _ := frac.Mul(a, b)
	return f
}

// pairs returns the fractions that a function returns for the elements of two lists.
func pairs(f func(a, b api.Frac) api.Frac, x, y []api.Frac) []api.Frac {
	l := make([]api.Frac, len(x))
	for i := range x {
		l[i] = f(x[i], y[i])
	}
	return l
}

// times returns a list times a fraction.
func times(x []api.Frac, f api.Frac) []api.Frac {
	return pairs(product, x, slices.Repeat([]api.Frac{f}, len(x)))
}

// proof is a bound of a goal, with a solution and multipliers.
type proof struct {
	s    api.System
	goal []api.Term
	x, y []api.Frac
}

// someProof returns a goal with multipliers that prove a bound, which is the least value in every other case.
func someProof(r *rand.Rand, i int) (proof, model) {
	n, most := 1+i%5, 1+i%90
	x := somePoint(r, n, most)
	m := someModel(r, x, r.Intn(6), most)
	p, _ := proofFor(r, m, x, i, most)
	return p, m
}

// proofFor returns a further proof for a system, of which x is a solution.
func proofFor(r *rand.Rand, m model, x []*gobig.Rat, i, most int) (proof, []*gobig.Rat) {
	tight, at := x, x
	if i%2 == 1 {
		tight, at = nil, make0(m.n)
	}
	y := someSigned(r, m, tight, most)
	goal := someGoal(r, m, at, y, most)
	return proof{m.system(), listOf(goal), ofAll(x), ofAll(y)}, y
}

// bound returns what a proof proves.
func (p proof) bound(t *testing.T) api.Frac {
	t.Helper()
	b, is := dual.Lower(p.s, p.goal, p.y)
	if !is || !frac.Right(b) {
		t.Fatalf("Lower of %s, goal %s, with %s is %s, %t", showSystem(p.s), show(p.goal), showAll(p.y), showFrac(b), is)
	}
	return b
}

func TestBoundsAreBounds(t *testing.T) {
	r := rand.New(rand.NewSource(11))
	least := 0
	for i := range 1500 {
		p, _ := someProof(r, i)
		b, at := p.bound(t), value(t, p.goal, p.x)
		if !linear.Holds(p.s, p.x) || frac.Compare(at, b) < 0 {
			t.Fatalf("%s, goal %s, has the value %s at %s, and the bound %s", showSystem(p.s), show(p.goal), showFrac(at), showAll(p.x), showFrac(b))
		}
		if is := frac.Same(at, b); is != dual.Check(p.s, p.goal, api.Optimum{Value: at, X: p.x, Y: p.y}) {
			t.Fatalf("Check of %s, goal %s, at %s, with the bound %s, is %t", showSystem(p.s), show(p.goal), showAll(p.x), showFrac(b), !is)
		} else if is {
			least++
		}
		if dual.Refutes(p.s, p.y) {
			t.Fatalf("%s, which %s solves, is refuted with %s", showSystem(p.s), showAll(p.x), showAll(p.y))
		}
	}
	if least < 700 || least > 1400 {
		t.Errorf("%d of 1500 bounds are reached", least)
	}
}

// smallSystem returns a system of two variables, with up to three rows of small numbers.
func smallSystem(r *rand.Rand) api.System {
	s := api.System{N: 2}
	for range 1 + r.Intn(3) {
		coefs := rats(int64(r.Intn(5)-2), int64(r.Intn(5)-2))
		s.Rows = append(s.Rows, api.Row{Terms: listOf(coefs), Kind: r.Intn(api.RoKinds), Value: raw([]string{"-2", "-1", "0", "1", "2"}[r.Intn(5)])})
	}
	return s
}

// grid returns all lists of n small numbers.
func grid(n int, least, most int64) [][]api.Frac {
	var all [][]api.Frac
	for _, l := range lists(n, least, most) {
		all = append(all, ofAll(rats(l...)))
	}
	return all
}

// optima returns all optima of small numbers that Check accepts.
func optima(t *testing.T, s api.System, goal []api.Term, xs, ys [][]api.Frac) []api.Optimum {
	t.Helper()
	var all []api.Optimum
	try := func(o api.Optimum) {
		if dual.Check(s, goal, o) {
			all = append(all, o)
		}
	}
	for _, y := range ys {
		try(api.Optimum{Kind: api.OpNone, Y: y})
		b, is := dual.Lower(s, goal, y)
		for _, x := range xs {
			if is {
				try(api.Optimum{Kind: api.OpFound, Value: b, X: x, Y: y})
			}
			try(api.Optimum{Kind: api.OpFound, Value: value(t, goal, x), X: x, Y: y})
		}
	}
	for _, x := range xs {
		for _, d := range xs {
			try(api.Optimum{Kind: api.OpFree, X: x, Ray: d})
		}
	}
	return all
}

func TestOptimaAreOfOneKindAndValue(t *testing.T) {
	r := rand.New(rand.NewSource(12))
	points, seen := grid(2, 0, 3), map[int]int{}
	for range 300 {
		s := smallSystem(r)
		goal := listOf(rats(int64(r.Intn(5)-2), int64(r.Intn(5)-2)))
		var xs [][]api.Frac
		for _, x := range points {
			if linear.Holds(s, x) {
				xs = append(xs, x)
			}
		}
		directions := append(slices.Clone(xs), grid(2, 0, 2)...)
		all := optima(t, s, goal, directions, grid(len(s.Rows), -2, 2))
		for _, o := range all {
			seen[o.Kind]++
			if o.Kind != all[0].Kind || !frac.Same(o.Value, all[0].Value) {
				t.Fatalf("%s, goal %s, has two results: %v and %v", showSystem(s), show(goal), o, all[0])
			}
			for _, x := range xs {
				if o.Kind == api.OpNone || o.Kind == api.OpFound && frac.Compare(value(t, goal, x), o.Value) < 0 {
					t.Fatalf("%s, goal %s, has the result %v, and the solution %s", showSystem(s), show(goal), o, showAll(x))
				}
			}
		}
	}
	if seen[api.OpFound] < 500 || seen[api.OpNone] < 500 || seen[api.OpFree] < 500 {
		t.Errorf("too few cases: %v", seen)
	}
}

func TestBoundsAddUp(t *testing.T) {
	r := rand.New(rand.NewSource(13))
	for i := range 1000 {
		n, most := 1+i%5, 1+i%90
		x := somePoint(r, n, most)
		m := someModel(r, x, r.Intn(6), most)
		p, _ := proofFor(r, m, x, i, most)
		q, _ := proofFor(r, m, x, i/2, most)
		b, c := p.bound(t), q.bound(t)
		both := proof{p.s, linear.Plus(p.goal, q.goal), p.x, pairs(sum, p.y, q.y)}
		if !frac.Same(both.bound(t), sum(b, c)) {
			t.Fatalf("%s: the bounds %s of %s and %s of %s do not add up", showSystem(p.s), showFrac(b), show(p.goal), showFrac(c), show(q.goal))
		}
		for _, f := range ofAll(append(somePoint(r, 2, most), rat(0), rat(1))) {
			more := proof{p.s, linear.Times(p.goal, f), p.x, times(p.y, f)}
			if !frac.Same(more.bound(t), product(b, f)) {
				t.Fatalf("%s: the bound %s of %s times %s is %s", showSystem(p.s), showFrac(b), show(p.goal), showFrac(f), showFrac(more.bound(t)))
			}
		}
		l, v := dual.Mix(p.s, p.y)
		k, w := dual.Mix(p.s, q.y)
		both.goal, b = dual.Mix(p.s, both.y)
		if !linear.Same(both.goal, linear.Plus(l, k)) || !frac.Same(b, sum(v, w)) {
			t.Fatalf("the mix of %s with %s and %s together is not the sum of both", showSystem(p.s), showAll(p.y), showAll(q.y))
		}
	}
}

// shuffled returns the rows of a system, and their multipliers, in another order.
func shuffled(r *rand.Rand, s api.System, y []api.Frac) (api.System, []api.Frac) {
	o, z := api.System{N: s.N}, []api.Frac{}
	for _, i := range r.Perm(len(s.Rows)) {
		o.Rows, z = append(o.Rows, s.Rows[i]), append(z, y[i])
	}
	return o, z
}

// provesStill checks that further rows with the multiplier 0, and another order, change nothing.
func provesStill(t *testing.T, r *rand.Rand, p proof, m model) {
	t.Helper()
	l, v := dual.Mix(p.s, p.y)
	b, is := dual.Lower(p.s, p.goal, p.y)
	refuted := dual.Refutes(p.s, p.y)
	for range 3 {
		s, y := shuffled(r, p.s, p.y)
		i := r.Intn(len(s.Rows) + 1)
		further := someModel(r, someList(r, m.n, 40), 1, 40).system().Rows[0]
		s, y = with(s, i, further), slices.Insert(y, i, raw("0"))
		k, w := dual.Mix(s, y)
		c, still := dual.Lower(s, p.goal, y)
		if !linear.Same(l, k) || !frac.Same(v, w) || is != still || !frac.Same(b, c) || dual.Refutes(s, y) != refuted || !dual.Signed(s, y) {
			t.Fatalf("%s with %s does not prove what %s with %s proves", showSystem(s), showAll(y), showSystem(p.s), showAll(p.y))
		}
	}
}

func TestFurtherRowsAndOtherOrders(t *testing.T) {
	r := rand.New(rand.NewSource(14))
	for i := range 700 {
		p, m := someProof(r, i)
		provesStill(t, r, p, m)
		// A row that makes the mix one of no terms, with the value 1, refutes the system.
		coefs, v := dual.Mix(p.s, p.y)
		last := api.Row{Terms: linear.Times(coefs, raw("-1")), Kind: api.RoLeast, Value: sum(frac.Neg(v), raw("1"))}
		p.s, p.y = with(p.s, len(p.s.Rows), last), append(p.y, raw("1"))
		if !dual.Refutes(p.s, p.y) || !dual.Check(p.s, p.goal, api.Optimum{Kind: api.OpNone, Y: p.y}) {
			t.Fatalf("%s is not refuted with %s", showSystem(p.s), showAll(p.y))
		}
		provesStill(t, r, p, m)
	}
}

func TestRaysLeadToLesserValues(t *testing.T) {
	r := rand.New(rand.NewSource(15))
	seen := 0
	for i := range 1000 {
		n, most := 1+i%5, 1+i%90
		x, d := somePoint(r, n, most), somePoint(r, n, most)
		m := someCone(r, x, d, r.Intn(5), most)
		s, goal := m.system(), listOf(someList(r, n, most))
		if frac.Sign(value(t, goal, ofAll(d))) > 0 {
			goal = linear.Times(goal, raw("-1"))
		}
		if !dual.Ray(s, goal, ofAll(d)) {
			continue
		}
		seen++
		before, y := ofAll(x), ofAll(someSigned(r, m, nil, most))
		if b, is := dual.Lower(s, goal, y); is {
			t.Fatalf("%s, goal %s, has the ray %v, and the bound %s", showSystem(s), show(goal), d, showFrac(b))
		}
		for _, f := range point("1/1000 1 1000000000000000000000000000000") {
			after := pairs(sum, before, times(ofAll(d), f))
			if !linear.Holds(s, after) || frac.Compare(value(t, goal, after), value(t, goal, before)) >= 0 {
				t.Fatalf("%s, goal %s, with the ray %v: from %s to %s", showSystem(s), show(goal), d, showAll(before), showAll(after))
			}
			if !dual.Check(s, goal, api.Optimum{Kind: api.OpFree, X: after, Ray: times(ofAll(d), f)}) {
				t.Fatalf("Check of %s, goal %s, at %s with the ray %v is false", showSystem(s), show(goal), showAll(after), d)
			}
			before = after
		}
	}
	if seen < 400 {
		t.Errorf("only %d rays", seen)
	}
}
