package simplex_test

import (
	gobig "math/big"
	"math/rand"
	"slices"
	"strconv"
	"strings"
	"testing"

	"kerbside/api"
	"kerbside/dual"
	"kerbside/linear"
	"kerbside/simplex"
)

const top = 1048575 // the greatest digit

// ofInt returns the right big integer with a value, by the definition.
func ofInt(x *gobig.Int) api.Big {
	a := api.Big{Sign: x.Sign()}
	for rest := new(gobig.Int).Abs(x); rest.Sign() > 0; rest.Rsh(rest, 20) {
		a.Digits = append(a.Digits, int(new(gobig.Int).And(rest, gobig.NewInt(top)).Int64()))
	}
	return a
}

// of returns the right fraction with a value, by the definition.
func of(x *gobig.Rat) api.Frac { return api.Frac{P: ofInt(x.Num()), Q: ofInt(x.Denom())} }

// ratOf returns the value of a right fraction.
func ratOf(f api.Frac) *gobig.Rat {
	value := func(a api.Big) *gobig.Int {
		n := new(gobig.Int)
		for _, d := range slices.Backward(a.Digits) {
			n.Add(n.Lsh(n, 20), gobig.NewInt(int64(d)))
		}
		return n.Mul(n, gobig.NewInt(int64(a.Sign)))
	}
	return new(gobig.Rat).SetFrac(value(f.P), value(f.Q))
}

func ratsOf(l []api.Frac) []*gobig.Rat {
	var x []*gobig.Rat
	for _, f := range l {
		x = append(x, ratOf(f))
	}
	return x
}

// raw returns the fraction with the parts of a text, right or not: of 1 or 2/4, for example.
func raw(s string) api.Frac {
	p, q, is := strings.Cut(s, "/")
	if !is {
		q = "1"
	}
	number := func(s string) api.Big {
		n, is := new(gobig.Int).SetString(s, 10)
		if !is {
			panic("no number: " + s)
		}
		return ofInt(n)
	}
	return api.Frac{P: number(p), Q: number(q)}
}

// point returns the fractions with a text.
func point(s string) []api.Frac {
	var x []api.Frac
	for _, field := range strings.Fields(s) {
		x = append(x, raw(field))
	}
	return x
}

// terms returns the terms with a text, right or not: of 0:2 2:-1/3, for example.
func terms(s string) []api.Term {
	var l []api.Term
	for _, field := range strings.Fields(s) {
		v, coef, _ := strings.Cut(field, ":")
		n, e := strconv.Atoi(v)
		if e != nil {
			panic(e)
		}
		l = append(l, api.Term{Var: n, Coef: raw(coef)})
	}
	return l
}

// row returns the row with a text, right or not: of 0:2 2:-1/3 >= 1, for example.
func row(s string) api.Row {
	for kind, sign := range []string{">=", "<=", "=="} {
		if l, value, is := strings.Cut(s, sign); is {
			return api.Row{Terms: terms(l), Kind: kind, Value: raw(strings.TrimSpace(value))}
		}
	}
	panic("no row: " + s)
}

// system returns the system of n variables with the rows of a text, a line each.
func system(n int, rows string) api.System {
	s := api.System{N: n}
	for _, text := range strings.Split(rows, "\n") {
		if strings.TrimSpace(text) != "" {
			s.Rows = append(s.Rows, row(text))
		}
	}
	return s
}

func equalBig(a, b api.Big) bool { return a.Sign == b.Sign && slices.Equal(a.Digits, b.Digits) }

func equal(a, b api.Frac) bool { return equalBig(a.P, b.P) && equalBig(a.Q, b.Q) }

func equalAll(x, y []api.Frac) bool { return slices.EqualFunc(x, y, equal) }

func equalOptima(a, b api.Optimum) bool {
	return a.Kind == b.Kind && equal(a.Value, b.Value) && equalAll(a.X, b.X) && equalAll(a.Y, b.Y) && equalAll(a.Ray, b.Ray)
}

func isZero(o api.Optimum) bool { return equalOptima(o, api.Optimum{}) }

func showFrac(f api.Frac) string {
	if f.Q.Sign == 0 {
		return "-"
	}
	return ratOf(f).RatString()
}

func showAll(x []api.Frac) string {
	var l []string
	for _, f := range x {
		l = append(l, showFrac(f))
	}
	return "(" + strings.Join(l, " ") + ")"
}

func show(l []api.Term) string {
	var s []string
	for _, t := range l {
		s = append(s, strconv.Itoa(t.Var)+":"+showFrac(t.Coef))
	}
	return strings.Join(s, " ")
}

func showSystem(s api.System, goal []api.Term) string {
	text := strconv.Itoa(s.N) + " variables"
	for i, w := range s.Rows {
		if i == 30 {
			text += "; and others"
			break
		}
		text += "; " + show(w.Terms) + " " + []string{">=", "<=", "=="}[w.Kind] + " " + showFrac(w.Value)
	}
	return text + "; goal " + show(goal)
}

func showOptimum(o api.Optimum) string {
	return "kind " + strconv.Itoa(o.Kind) + ", value " + showFrac(o.Value) + ", X " + showAll(o.X) + ", Y " + showAll(o.Y) + ", ray " + showAll(o.Ray)
}

// best returns what Least returns for a right system and a goal, and checks all that P10.1 and P10.2 say about it, and about Solution.
func best(t *testing.T, s api.System, goal []api.Term) api.Optimum {
	t.Helper()
	o, e := simplex.Least(s, goal)
	if e != api.OK || !dual.Check(s, goal, o) {
		t.Fatalf("Least of %s is %s, error %d", showSystem(s, goal), showOptimum(o), e)
	}
	lengths := map[int][3]int{api.OpFound: {s.N, len(s.Rows), 0}, api.OpNone: {0, len(s.Rows), 0}, api.OpFree: {s.N, 0, s.N}}
	if want, is := lengths[o.Kind]; !is || want != [3]int{len(o.X), len(o.Y), len(o.Ray)} {
		t.Fatalf("Least of %s is %s: a list is too long or too short", showSystem(s, goal), showOptimum(o))
	}
	if o.Kind != api.OpFound && !equal(o.Value, api.Frac{}) {
		t.Fatalf("Least of %s has the value %s, and no least value", showSystem(s, goal), showFrac(o.Value))
	}
	x, y, ok := simplex.Solution(s)
	switch {
	case ok != (o.Kind != api.OpNone):
		t.Fatalf("Least of %s is %s, but Solution says %t", showSystem(s, goal), showOptimum(o), ok)
	case ok && (len(x) != s.N || len(y) != 0 || !linear.Holds(s, x)):
		t.Fatalf("Solution of %s is %s, %s", showSystem(s, nil), showAll(x), showAll(y))
	case !ok && (len(x) != 0 || len(y) != len(s.Rows) || !dual.Refutes(s, y)):
		t.Fatalf("Solution of %s is %s, refuted by %s", showSystem(s, nil), showAll(x), showAll(y))
	}
	return o
}

// bestIs checks what is best of a system: a least value, none or free.
func bestIs(t *testing.T, s api.System, goal []api.Term, want string) api.Optimum {
	t.Helper()
	o := best(t, s, goal)
	got := map[int]string{api.OpFound: showFrac(o.Value), api.OpNone: "none", api.OpFree: "free"}[o.Kind]
	if got != want {
		t.Fatalf("Least of %s is %s, want %s", showSystem(s, goal), showOptimum(o), want)
	}
	return o
}

// The model: all points at which as many rows and signs of variables hold just so as there are variables. One of them is best, as no variable is negative; for the rays, those of the rows with the value 0 whose sum is 1.

type modelRow struct {
	coefs []*gobig.Rat
	kind  int
	value *gobig.Rat
}

func coefsOf(l []api.Term, n int) []*gobig.Rat {
	coefs := make([]*gobig.Rat, n)
	for v := range coefs {
		coefs[v] = new(gobig.Rat)
	}
	for _, t := range l {
		coefs[t.Var] = ratOf(t.Coef)
	}
	return coefs
}

// modelOf returns the rows of a system, and one for the sign of each variable.
func modelOf(s api.System) []modelRow {
	var m []modelRow
	for _, w := range s.Rows {
		m = append(m, modelRow{coefsOf(w.Terms, s.N), w.Kind, ratOf(w.Value)})
	}
	for v := range s.N {
		m = append(m, modelRow{coefsOf([]api.Term{{Var: v, Coef: raw("1")}}, s.N), api.RoLeast, new(gobig.Rat)})
	}
	return m
}

func dot(a, b []*gobig.Rat) *gobig.Rat {
	sum := new(gobig.Rat)
	for i := range a {
		sum.Add(sum, new(gobig.Rat).Mul(a[i], b[i]))
	}
	return sum
}

func (w modelRow) holds(x []*gobig.Rat) bool {
	order := dot(w.coefs, x).Cmp(w.value)
	return order == 0 || w.kind == api.RoLeast && order > 0 || w.kind == api.RoMost && order < 0
}

// crossing returns the only point at which rows hold just so, or nil.
func crossing(rows []modelRow, n int) []*gobig.Rat {
	var l [][]*gobig.Rat
	for _, w := range rows {
		var copied []*gobig.Rat
		for _, f := range append(slices.Clone(w.coefs), w.value) {
			copied = append(copied, new(gobig.Rat).Set(f))
		}
		l = append(l, copied)
	}
	for v := range n {
		i := slices.IndexFunc(l[v:], func(w []*gobig.Rat) bool { return w[v].Sign() != 0 })
		if i < 0 {
			return nil
		}
		l[v], l[v+i] = l[v+i], l[v]
		for k, w := range l {
			if k == v || w[v].Sign() == 0 {
				continue
			}
			f := new(gobig.Rat).Quo(w[v], l[v][v])
			for c := range w {
				w[c].Sub(w[c], new(gobig.Rat).Mul(f, l[v][c]))
			}
		}
	}
	x := make([]*gobig.Rat, n)
	for v := range x {
		x[v] = new(gobig.Rat).Quo(l[v][n], l[v][v])
	}
	return x
}

// corners calls a function with each corner of the model.
func corners(m []modelRow, n int, do func(x []*gobig.Rat)) {
	var choose func(from int, chosen []modelRow)
	choose = func(from int, chosen []modelRow) {
		if len(chosen) == n {
			x := crossing(chosen, n)
			if x != nil && !slices.ContainsFunc(m, func(w modelRow) bool { return !w.holds(x) }) {
				do(x)
			}
			return
		}
		for i := from; i < len(m); i++ {
			choose(i+1, append(chosen[:len(chosen):len(chosen)], m[i]))
		}
	}
	choose(0, nil)
}

// leastOf returns the least value of a goal at a corner, or nil, if there is none.
func leastOf(m []modelRow, goal []*gobig.Rat) *gobig.Rat {
	var least *gobig.Rat
	corners(m, len(goal), func(x []*gobig.Rat) {
		if value := dot(goal, x); least == nil || value.Cmp(least) < 0 {
			least = value
		}
	})
	return least
}

// expected returns what is best of a system by the model.
func expected(s api.System, goal []api.Term) string {
	m, g := modelOf(s), coefsOf(goal, s.N)
	least := leastOf(m, g)
	if least == nil {
		return "none"
	}
	sum := modelRow{kind: api.RoEqual, value: gobig.NewRat(1, 1)}
	for range s.N {
		sum.coefs = append(sum.coefs, gobig.NewRat(1, 1))
	}
	for i := range m {
		m[i].value = new(gobig.Rat)
	}
	if fall := leastOf(append(m, sum), g); fall != nil && fall.Sign() < 0 {
		return "free"
	}
	return least.RatString()
}

// agrees compares Least with the model, and returns the kind.
func agrees(t *testing.T, s api.System, goal []api.Term) int {
	t.Helper()
	return bestIs(t, s, goal, expected(s, goal)).Kind
}

// lists returns all lists of n numbers from least to most.
func lists(n, least, most int) [][]int {
	all := [][]int{{}}
	for range n {
		var longer [][]int
		for _, l := range all {
			for k := least; k <= most; k++ {
				longer = append(longer, append(slices.Clone(l), k))
			}
		}
		all = longer
	}
	return all
}

// whole returns the terms with these coefficients.
func whole(l ...int) []api.Term {
	var out []api.Term
	for v, n := range l {
		if n != 0 {
			out = append(out, api.Term{Var: v, Coef: of(gobig.NewRat(int64(n), 1))})
		}
	}
	return out
}

func wholeRow(kind, value int, l ...int) api.Row {
	return api.Row{Terms: whole(l...), Kind: kind, Value: of(gobig.NewRat(int64(value), 1))}
}

func TestAllSystemsOfOneVariable(t *testing.T) {
	// No row, one row and two rows of each kind, with each goal.
	var rows []api.Row
	for kind := range api.RoKinds {
		for _, l := range lists(2, -1, 1) {
			rows = append(rows, wholeRow(kind, l[0], l[1]))
		}
	}
	for goal := -1; goal <= 1; goal++ {
		agrees(t, api.System{N: 1}, whole(goal))
		for _, w := range rows {
			agrees(t, api.System{N: 1, Rows: []api.Row{w}}, whole(goal))
			for _, v := range rows {
				agrees(t, api.System{N: 1, Rows: []api.Row{w, v}}, whole(goal))
			}
		}
	}
}

func TestAllSystemsOfTwoVariables(t *testing.T) {
	seen := [api.OpKinds]int{}
	goals := lists(2, -1, 1)
	for kinds := range api.RoKinds * api.RoKinds {
		for i, l := range lists(6, -1, 1) {
			s := api.System{N: 2, Rows: []api.Row{wholeRow(kinds/api.RoKinds, l[0], l[1], l[2]), wholeRow(kinds%api.RoKinds, l[3], l[4], l[5])}}
			seen[agrees(t, s, whole(goals[i%len(goals)]...))]++
		}
	}
	for kind, n := range seen {
		if n < 500 {
			t.Errorf("the kind %d only %d times", kind, n)
		}
	}
}

// some returns a fraction whose parts have up to so many bits; it is often 0, or of few digits.
func some(r *rand.Rand, most int) *gobig.Rat {
	switch r.Intn(5) {
	case 0:
		return new(gobig.Rat)
	case 1, 2:
		return gobig.NewRat(int64(r.Intn(9)-4), int64(1+r.Intn(3)))
	}
	part := func() *gobig.Int {
		return new(gobig.Int).Rand(r, new(gobig.Int).Lsh(gobig.NewInt(1), uint(1+r.Intn(most))))
	}
	f := new(gobig.Rat).SetFrac(part(), new(gobig.Int).Add(part(), gobig.NewInt(1)))
	if r.Intn(2) == 0 {
		f.Neg(f)
	}
	return f
}

func someTerms(r *rand.Rand, n, most int) []api.Term {
	var l []api.Term
	for v := range n {
		if f := some(r, most); f.Sign() != 0 {
			l = append(l, api.Term{Var: v, Coef: of(f)})
		}
	}
	return l
}

// someSystem returns a system of any rows.
func someSystem(r *rand.Rand, n, rows, most int) api.System {
	s := api.System{N: n}
	for range rows {
		s.Rows = append(s.Rows, api.Row{Terms: someTerms(r, n, most), Kind: r.Intn(api.RoKinds), Value: of(some(r, most))})
	}
	return s
}

// someSolved returns a system of which a point is a solution; many of its rows hold just so there.
func someSolved(r *rand.Rand, n, rows, most int) (api.System, []api.Frac) {
	x := make([]api.Frac, n)
	for v := range x {
		f := some(r, most)
		x[v] = of(f.Abs(f))
	}
	s := someSystem(r, n, rows, most)
	for i, w := range s.Rows {
		value, _ := linear.Value(w.Terms, x)
		slack := some(r, most)
		switch slack.Abs(slack); w.Kind {
		case api.RoLeast:
			slack.Neg(slack)
		case api.RoEqual:
			slack.SetInt64(0)
		}
		s.Rows[i].Value = of(slack.Add(slack, ratOf(value)))
	}
	return s, x
}

func TestSmallSystemsAgainstTheModel(t *testing.T) {
	r := rand.New(rand.NewSource(1))
	seen := [api.OpKinds]int{}
	for i := range 6000 {
		n, rows := i%4, r.Intn(6)
		s := someSystem(r, n, rows, 4)
		if i%3 > 0 {
			s, _ = someSolved(r, n, rows, 4)
		}
		seen[agrees(t, s, someTerms(r, n, 4))]++
	}
	for kind, n := range seen {
		if n < 700 {
			t.Errorf("the kind %d only %d times", kind, n)
		}
	}
}

func TestLongFractionsAgainstTheModel(t *testing.T) {
	r := rand.New(rand.NewSource(2))
	for i := range 600 {
		n, rows, most := 1+i%3, r.Intn(5), 20+i
		s := someSystem(r, n, rows, most)
		if i%2 > 0 {
			s, _ = someSolved(r, n, rows, most)
		}
		agrees(t, s, someTerms(r, n, most))
	}
}
