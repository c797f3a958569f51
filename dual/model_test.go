package dual_test

import (
	gobig "math/big"
	"math/rand"
	"slices"
	"strconv"
	"strings"
	"sync"
	"testing"

	"kerbside/api"
	"kerbside/dual"
	"kerbside/linear"
)

const top = 1048575 // the greatest digit

func digits(sign int, l ...int) api.Big { return api.Big{Sign: sign, Digits: l} }

func parts(p, q api.Big) api.Frac { return api.Frac{P: p, Q: q} }

// ofInt returns the right big integer with a value, by the definition.
func ofInt(x *gobig.Int) api.Big {
	a := api.Big{Sign: x.Sign()}
	for rest := new(gobig.Int).Abs(x); rest.Sign() > 0; rest.Rsh(rest, 20) {
		a.Digits = append(a.Digits, int(new(gobig.Int).And(rest, gobig.NewInt(top)).Int64()))
	}
	return a
}

// of returns the right fraction with a value, by the definition.
func of(x *gobig.Rat) api.Frac { return parts(ofInt(x.Num()), ofInt(x.Denom())) }

func ofAll(x []*gobig.Rat) []api.Frac {
	var l []api.Frac
	for _, f := range x {
		l = append(l, of(f))
	}
	return l
}

// number returns the integer with a text.
func number(s string) *gobig.Int {
	n, is := new(gobig.Int).SetString(s, 10)
	if !is {
		panic("no number: " + s)
	}
	return n
}

// raw returns the fraction with the parts of a text, right or not: of 1 or 2/4, for example.
func raw(s string) api.Frac {
	p, q, is := strings.Cut(s, "/")
	if !is {
		q = "1"
	}
	return parts(ofInt(number(p)), ofInt(number(q)))
}

// point returns the fractions with a text.
func point(s string) []api.Frac {
	var x []api.Frac
	for _, field := range strings.Fields(s) {
		x = append(x, raw(field))
	}
	return x
}

// terms returns the terms with a text, right or not: of 0:2 2:-1/3, for example.
func terms(s string) []api.Term {
	var l []api.Term
	for _, field := range strings.Fields(s) {
		v, coef, _ := strings.Cut(field, ":")
		n, e := strconv.Atoi(v)
		if e != nil {
			panic(e)
		}
		l = append(l, api.Term{Var: n, Coef: raw(coef)})
	}
	return l
}

// row returns the row with a text, right or not: of 0:2 2:-1/3 >= 1, for example.
func row(s string) api.Row {
	for kind, sign := range []string{">=", "<=", "=="} {
		if l, value, is := strings.Cut(s, sign); is {
			return api.Row{Terms: terms(l), Kind: kind, Value: raw(strings.TrimSpace(value))}
		}
	}
	panic("no row: " + s)
}

// system returns the system of n variables with the rows of texts.
func system(n int, texts ...string) api.System {
	s := api.System{N: n}
	for _, text := range texts {
		s.Rows = append(s.Rows, row(text))
	}
	return s
}

// with returns a system with a further row before the one that is given.
func with(s api.System, i int, w api.Row) api.System {
	return api.System{N: s.N, Rows: slices.Insert(slices.Clone(s.Rows), i, w)}
}

// replaced returns a list with another element.
func replaced[T any](l []T, i int, e T) []T {
	l = slices.Clone(l)
	l[i] = e
	return l
}

// wrongs are fractions that are not right.
func wrongs() []api.Frac {
	one, none := digits(1, 1), api.Big{}
	l := []api.Frac{{}, {P: one}}
	for _, s := range []string{"2/4", "-2/4", "2/2", "4/2", "6/9", "0/2", "0/-1", "0/0", "1/0", "-1/0", "1/-1", "-1/-1", "1/-2", "-3/-2", "2000000000000000000000000000000/4", "4/2000000000000000000000000000000", "3/-1000000000000000000000000000000"} {
		l = append(l, raw(s))
	}
	for _, w := range []api.Big{digits(2, 1), digits(-2, 1), digits(1, top+1), digits(1, 1, top+1), digits(1, -1), digits(-1, -1, 1), digits(1, 0), digits(1, 1, 0), digits(-1, 7, 0), digits(0, 1), digits(0, 0), digits(1), digits(-1)} {
		l = append(l, parts(w, one), parts(one, w), parts(none, w), parts(w, w))
	}
	return l
}

func equalBig(a, b api.Big) bool { return a.Sign == b.Sign && slices.Equal(a.Digits, b.Digits) }

func equal(a, b api.Frac) bool { return equalBig(a.P, b.P) && equalBig(a.Q, b.Q) }

func equalTerms(a, b []api.Term) bool {
	return slices.EqualFunc(a, b, func(t, u api.Term) bool { return t.Var == u.Var && equal(t.Coef, u.Coef) })
}

// showBig returns an integer as text, right or not.
func showBig(a api.Big) string {
	n := new(gobig.Int)
	for _, d := range slices.Backward(a.Digits) {
		n.Add(n.Lsh(n, 20), gobig.NewInt(int64(d)))
	}
	n.Mul(n, gobig.NewInt(int64(a.Sign)))
	if !equalBig(ofInt(n), a) {
		return "(not right)" + n.String()
	}
	return n.String()
}

func showFrac(f api.Frac) string { return showBig(f.P) + "/" + showBig(f.Q) }

func showAll(x []api.Frac) string {
	var l []string
	for _, f := range x {
		l = append(l, showFrac(f))
	}
	return "(" + strings.Join(l, " ") + ")"
}

func show(l []api.Term) string {
	var s []string
	for _, t := range l {
		s = append(s, strconv.Itoa(t.Var)+":"+showFrac(t.Coef))
	}
	return "(" + strings.Join(s, " ") + ")"
}

func showSystem(s api.System) string {
	l := []string{strconv.Itoa(s.N) + " variables"}
	for _, w := range s.Rows {
		l = append(l, show(w.Terms)+" kind "+strconv.Itoa(w.Kind)+" "+showFrac(w.Value))
	}
	return strings.Join(l, "; ")
}

// The model: lists of coefficients, one for each variable, with Go's own package for fractions.

type modelRow struct {
	coefs []*gobig.Rat
	kind  int
	value *gobig.Rat
}

type model struct {
	n    int
	rows []modelRow
}

func rat(n int64) *gobig.Rat { return gobig.NewRat(n, 1) }

func rats(l ...int64) []*gobig.Rat {
	x := make([]*gobig.Rat, len(l))
	for i, n := range l {
		x[i] = rat(n)
	}
	return x
}

// listOf returns the terms with coefficients, by the definition.
func listOf(coefs []*gobig.Rat) []api.Term {
	var l []api.Term
	for v, f := range coefs {
		if f.Sign() != 0 {
			l = append(l, api.Term{Var: v, Coef: of(f)})
		}
	}
	return l
}

func (m model) system() api.System {
	s := api.System{N: m.n}
	for _, w := range m.rows {
		s.Rows = append(s.Rows, api.Row{Terms: listOf(w.coefs), Kind: w.kind, Value: of(w.value)})
	}
	return s
}

// dot returns the sum of the products of both lists.
func dot(a, b []*gobig.Rat) *gobig.Rat {
	sum := new(gobig.Rat)
	for i := range a {
		sum.Add(sum, new(gobig.Rat).Mul(a[i], b[i]))
	}
	return sum
}

func (m model) mix(y []*gobig.Rat) ([]*gobig.Rat, *gobig.Rat) {
	coefs, value := make([]*gobig.Rat, m.n), new(gobig.Rat)
	for v := range coefs {
		coefs[v] = new(gobig.Rat)
		for i, w := range m.rows {
			coefs[v].Add(coefs[v], new(gobig.Rat).Mul(y[i], w.coefs[v]))
		}
	}
	for i, w := range m.rows {
		value.Add(value, new(gobig.Rat).Mul(y[i], w.value))
	}
	return coefs, value
}

func (m model) signed(y []*gobig.Rat) bool {
	for i, w := range m.rows {
		if w.kind == api.RoLeast && y[i].Sign() < 0 || w.kind == api.RoMost && y[i].Sign() > 0 {
			return false
		}
	}
	return true
}

// lower returns the bound, or nil.
func (m model) lower(goal, y []*gobig.Rat) *gobig.Rat {
	if !m.signed(y) {
		return nil
	}
	coefs, value := m.mix(y)
	for v, f := range coefs {
		if f.Cmp(goal[v]) > 0 {
			return nil
		}
	}
	return value
}

func (m model) refutes(y []*gobig.Rat) bool {
	value := m.lower(make0(m.n), y)
	return value != nil && value.Sign() > 0
}

func make0(n int) []*gobig.Rat { return rats(make([]int64, n)...) }

// keeps reports whether a value at x keeps a row with this value.
func keeps(kind int, at, value *gobig.Rat) bool {
	order := at.Cmp(value)
	return order == 0 || kind == api.RoLeast && order > 0 || kind == api.RoMost && order < 0
}

func notNegative(x []*gobig.Rat) bool {
	return !slices.ContainsFunc(x, func(f *gobig.Rat) bool { return f.Sign() < 0 })
}

func (m model) solvedBy(x []*gobig.Rat) bool {
	is := notNegative(x)
	for _, w := range m.rows {
		is = is && keeps(w.kind, dot(w.coefs, x), w.value)
	}
	return is
}

func (m model) ray(goal, d []*gobig.Rat) bool {
	is := notNegative(d) && dot(goal, d).Sign() < 0
	for _, w := range m.rows {
		is = is && keeps(w.kind, dot(w.coefs, d), new(gobig.Rat))
	}
	return is
}

// agrees compares all functions but Check with the model.
func agrees(t *testing.T, m model, goal, x, y, d []*gobig.Rat) {
	t.Helper()
	s, g := m.system(), listOf(goal)
	coefs, value := m.mix(y)
	if l, f := dual.Mix(s, ofAll(y)); !equalTerms(l, listOf(coefs)) || !equal(f, of(value)) {
		t.Fatalf("Mix of %s with %v is %s; %s", showSystem(s), y, show(l), showFrac(f))
	}
	if is := dual.Signed(s, ofAll(y)); is != m.signed(y) {
		t.Fatalf("Signed of %s with %v is %t", showSystem(s), y, is)
	}
	bound := m.lower(goal, y)
	f, is := dual.Lower(s, g, ofAll(y))
	if is != (bound != nil) || is && !equal(f, of(bound)) || !is && !equal(f, api.Frac{}) {
		t.Fatalf("Lower of %s, goal %s, with %v is %s, %t", showSystem(s), show(g), y, showFrac(f), is)
	}
	if is := dual.Refutes(s, ofAll(y)); is != m.refutes(y) {
		t.Fatalf("Refutes of %s with %v is %t", showSystem(s), y, is)
	}
	if is := dual.Ray(s, g, ofAll(d)); is != m.ray(goal, d) {
		t.Fatalf("Ray of %s, goal %s, with %v is %t", showSystem(s), show(g), d, is)
	}
	at := dot(goal, x)
	is = dual.Check(s, g, api.Optimum{Kind: api.OpFound, Value: of(at), X: ofAll(x), Y: ofAll(y)})
	if is != (m.solvedBy(x) && bound != nil && bound.Cmp(at) == 0) {
		t.Fatalf("Check of %s, goal %s, at %v with %v is %t", showSystem(s), show(g), x, y, is)
	}
	if is := dual.Check(s, g, api.Optimum{Kind: api.OpNone, Y: ofAll(y)}); is != m.refutes(y) {
		t.Fatalf("Check of %s without a solution, with %v, is %t", showSystem(s), y, is)
	}
	is = dual.Check(s, g, api.Optimum{Kind: api.OpFree, X: ofAll(x), Ray: ofAll(d)})
	if is != (m.solvedBy(x) && m.ray(goal, d)) {
		t.Fatalf("Check of %s, goal %s, at %v with the ray %v is %t", showSystem(s), show(g), x, d, is)
	}
}

// lists returns all lists of n numbers from least to most.
func lists(n int, least, most int64) [][]int64 {
	all := [][]int64{{}}
	for range n {
		var longer [][]int64
		for _, l := range all {
			for k := least; k <= most; k++ {
				longer = append(longer, append(slices.Clone(l), k))
			}
		}
		all = longer
	}
	return all
}

func TestAllSmallSystems(t *testing.T) {
	// One row of two variables, and two rows of one, of each kind, with each goal, multipliers and direction of small numbers.
	for kind := range api.RoKinds {
		for _, w := range lists(3, -1, 1) {
			m := model{2, []modelRow{{rats(w[:2]...), kind, rat(w[2])}}}
			for _, l := range lists(5, -1, 1) {
				agrees(t, m, rats(l[:2]...), rats(l[1]+l[2], l[3]), rats(l[2]), rats(l[3:]...))
			}
		}
	}
	for kind := range api.RoKinds * api.RoKinds {
		for _, w := range lists(4, -1, 1) {
			m := model{1, []modelRow{{rats(w[0]), kind / api.RoKinds, rat(w[1])}, {rats(w[2]), kind % api.RoKinds, rat(w[3])}}}
			for _, l := range lists(4, -1, 1) {
				agrees(t, m, rats(l[0]), rats(l[1]+l[0]), rats(l[2:]...), rats(l[1]))
			}
		}
	}
}

// some returns a fraction whose parts have up to so many bits; it is often 0, or of few digits.
func some(r *rand.Rand, most int) *gobig.Rat {
	switch r.Intn(6) {
	case 0:
		return new(gobig.Rat)
	case 1, 2:
		return gobig.NewRat(int64(r.Intn(9)-4), int64(1+r.Intn(4)))
	}
	part := func() *gobig.Int {
		return new(gobig.Int).Rand(r, new(gobig.Int).Lsh(gobig.NewInt(1), uint(1+r.Intn(most))))
	}
	f := new(gobig.Rat).SetFrac(part(), new(gobig.Int).Add(part(), gobig.NewInt(1)))
	if r.Intn(2) == 0 {
		f.Neg(f)
	}
	return f
}

func someList(r *rand.Rand, n, most int) []*gobig.Rat {
	l := make([]*gobig.Rat, n)
	for i := range l {
		l[i] = some(r, most)
	}
	return l
}

// somePoint returns fractions that are not negative.
func somePoint(r *rand.Rand, n, most int) []*gobig.Rat {
	l := someList(r, n, most)
	for _, f := range l {
		f.Abs(f)
	}
	return l
}

// someModel returns a system of which x is a solution; some of its rows hold just so.
func someModel(r *rand.Rand, x []*gobig.Rat, rows, most int) model {
	m := model{n: len(x)}
	for range rows {
		w := modelRow{coefs: someList(r, len(x), most), kind: r.Intn(api.RoKinds)}
		w.value = dot(w.coefs, x)
		switch slack := somePoint(r, 1, most)[0]; w.kind {
		case api.RoLeast:
			w.value.Sub(w.value, slack)
		case api.RoMost:
			w.value.Add(w.value, slack)
		}
		m.rows = append(m.rows, w)
	}
	return m
}

// someSigned returns multipliers that are signed; where x is a solution, those of rows that hold not just so are 0.
func someSigned(r *rand.Rand, m model, x []*gobig.Rat, most int) []*gobig.Rat {
	y := someList(r, len(m.rows), most)
	for i, w := range m.rows {
		switch {
		case x != nil && dot(w.coefs, x).Cmp(w.value) != 0:
			y[i].SetInt64(0)
		case w.kind == api.RoLeast:
			y[i].Abs(y[i])
		case w.kind == api.RoMost:
			y[i].Neg(y[i].Abs(y[i]))
		}
	}
	return y
}

// someGoal returns a goal whose least value multipliers prove at x.
func someGoal(r *rand.Rand, m model, x, y []*gobig.Rat, most int) []*gobig.Rat {
	goal, _ := m.mix(y)
	for v, f := range goal {
		if x[v].Sign() == 0 {
			f.Add(f, somePoint(r, 1, most)[0])
		}
	}
	return goal
}

// moved returns a list with one element that is slightly less or greater.
func moved(r *rand.Rand, l []*gobig.Rat, most int) []*gobig.Rat {
	if len(l) == 0 {
		return l
	}
	i := r.Intn(len(l))
	by := new(gobig.Rat).SetFrac(gobig.NewInt(int64(2*r.Intn(2)-1)), new(gobig.Int).Lsh(gobig.NewInt(1), uint(r.Intn(most+1))))
	return replaced(l, i, by.Add(by, l[i]))
}

func TestOptimaAgainstTheModel(t *testing.T) {
	r := rand.New(rand.NewSource(1))
	for i := range 1500 {
		n, rows, most := i%6, r.Intn(6), 1+i%130
		x := somePoint(r, n, most)
		m := someModel(r, x, rows, most)
		y := someSigned(r, m, x, most)
		goal, d := someGoal(r, m, x, y, most), somePoint(r, n, most)
		best := api.Optimum{Kind: api.OpFound, Value: of(dot(goal, x)), X: ofAll(x), Y: ofAll(y)}
		if !dual.Check(m.system(), listOf(goal), best) {
			t.Fatalf("Check does not accept %s, goal %v, at %v with %v", showSystem(m.system()), goal, x, y)
		}
		agrees(t, m, goal, x, y, d)
		agrees(t, m, moved(r, goal, most), x, y, d)
		agrees(t, m, goal, moved(r, x, most), y, d)
		agrees(t, m, goal, x, moved(r, y, most), moved(r, d, most))
		best.Value = of(moved(r, []*gobig.Rat{dot(goal, x)}, most)[0])
		if dual.Check(m.system(), listOf(goal), best) {
			t.Fatalf("Check accepts %s as the least value of %s, goal %v, at %v with %v", showFrac(best.Value), showSystem(m.system()), goal, x, y)
		}
	}
}

func TestRefutationsAgainstTheModel(t *testing.T) {
	r := rand.New(rand.NewSource(2))
	for i := range 1500 {
		n, most := i%6, 1+i%130
		// A last row at least as great as the opposite of the mix of the others, less than nothing, with a value just too great.
		m := someModel(r, somePoint(r, n, most), 1+r.Intn(5), most)
		y := someSigned(r, m, nil, most)
		coefs, value := m.mix(y)
		for _, f := range coefs {
			f.Neg(f.Add(f, somePoint(r, 1, most)[0]))
		}
		value.Neg(value)
		just := rat(int64(r.Intn(3) - 1))
		if just.Sign() != 0 {
			just.Mul(just, new(gobig.Rat).SetFrac(gobig.NewInt(1), new(gobig.Int).Lsh(gobig.NewInt(1), uint(most))))
		}
		m.rows = append(m.rows, modelRow{coefs, 2 * r.Intn(2), new(gobig.Rat).Add(value, just)})
		y = append(y, rat(1))
		if m.refutes(y) != (just.Sign() > 0) || dual.Refutes(m.system(), ofAll(y)) != (just.Sign() > 0) {
			t.Fatalf("Refutes of %s with %v, whose value is %v, is wrong", showSystem(m.system()), y, just)
		}
		goal, x, d := someList(r, n, most), somePoint(r, n, most), somePoint(r, n, most)
		agrees(t, m, goal, x, y, d)
		agrees(t, m, goal, x, moved(r, y, most), d)
	}
}

// someCone returns a system of which x is a solution and d a direction; some of its rows are 0 at d.
func someCone(r *rand.Rand, x, d []*gobig.Rat, rows, most int) model {
	m := someModel(r, x, rows, most)
	for i, w := range m.rows {
		at := dot(w.coefs, d)
		for v, f := range d {
			if at.Sign() != 0 && f.Sign() != 0 && (w.kind == api.RoEqual || r.Intn(2) == 0) {
				// This coefficient makes the row 0 at d.
				w.coefs[v].Sub(w.coefs[v], at.Quo(at, f))
				at = dot(w.coefs, d)
			}
		}
		if at.Sign() < 0 && w.kind == api.RoLeast || at.Sign() > 0 && w.kind == api.RoMost {
			for _, f := range w.coefs {
				f.Neg(f)
			}
		}
		slack := somePoint(r, 1, most)[0]
		w.value = dot(w.coefs, x)
		if w.kind == api.RoLeast {
			w.value.Sub(w.value, slack)
		}
		if w.kind == api.RoMost {
			w.value.Add(w.value, slack)
		}
		m.rows[i].value = w.value
	}
	return m
}

func TestRaysAgainstTheModel(t *testing.T) {
	r := rand.New(rand.NewSource(3))
	seen := map[bool]int{}
	for i := range 1500 {
		n, most := 1+i%5, 1+i%130
		x, d := somePoint(r, n, most), somePoint(r, n, most)
		m := someCone(r, x, d, r.Intn(5), most)
		goal, y := someList(r, n, most), someSigned(r, m, x, most)
		if at := dot(goal, d); at.Sign() > 0 {
			for _, f := range goal {
				f.Neg(f)
			}
		}
		seen[m.ray(goal, d)]++
		agrees(t, m, goal, x, y, d)
		agrees(t, m, goal, x, y, moved(r, d, most))
		agrees(t, m, moved(r, goal, most), x, y, d)
		agrees(t, m, goal, moved(r, x, most), y, d)
	}
	if seen[true] < 500 || seen[false] < 100 {
		t.Errorf("too few cases: %v", seen)
	}
}

func TestAnyNumbersAgainstTheModel(t *testing.T) {
	r := rand.New(rand.NewSource(4))
	for i := range 2000 {
		n, rows, most := i%5, r.Intn(5), 1+i%100
		m := someModel(r, someList(r, n, most), rows, most)
		agrees(t, m, someList(r, n, most), someList(r, n, most), someList(r, rows, most), someList(r, n, most))
	}
}

// Limits.

// great returns a system of all variables, with long rows whose values are their numbers, and multipliers whose mix is the sum of all variables.
func great(rows int) (api.System, []api.Frac) {
	l := make([]api.Term, api.MaxVars)
	for v := range l {
		l[v] = api.Term{Var: v, Coef: raw("1/2")}
	}
	s, y := api.System{N: api.MaxVars}, make([]api.Frac, rows)
	for i := range y {
		s.Rows = append(s.Rows, api.Row{Terms: l[i%700 : api.MaxVars-i%700], Kind: api.RoEqual, Value: raw(strconv.Itoa(i))})
		y[i] = raw("0")
	}
	s.Rows[rows-1].Terms = l
	y[rows-1] = raw("2")
	return s, y
}

func TestGreatestSystems(t *testing.T) {
	var all []api.Term
	for v := range api.MaxVars {
		all = append(all, api.Term{Var: v, Coef: raw("1")})
	}
	for rows, want := range map[int]bool{api.MaxRows - 1: true, api.MaxRows: true, api.MaxRows + 1: false} {
		s, y := great(rows)
		value := raw(strconv.Itoa(2 * (rows - 1)))
		if !want {
			value = api.Frac{}
		}
		l, f := dual.Mix(s, y)
		if equalTerms(l, all) != want || !equal(f, value) || dual.Signed(s, y) != want {
			t.Errorf("Mix or Signed of %d rows is wrong", rows)
		}
		if bound, is := dual.Lower(s, all, y); is != want || !equal(bound, value) {
			t.Errorf("Lower of %d rows is %s, %t", rows, showFrac(bound), is)
		}
		if _, is := dual.Lower(s, all[1:], y); is {
			t.Errorf("Lower of %d rows, without a variable of the mix, is true", rows)
		}
	}
	for n, want := range map[int]bool{api.MaxVars: true, api.MaxVars + 1: false} {
		s := api.System{N: n}
		x := slices.Repeat(point("1"), n)
		if dual.Signed(s, nil) != want || dual.Ray(s, terms("3:-1"), x) != want || dual.Check(s, nil, api.Optimum{Value: raw("0"), X: x}) != want {
			t.Errorf("a system of %d variables is not %t", n, want)
		}
	}
}

func TestMixOfManyLongRows(t *testing.T) {
	// 1500 denominators of 60 bits, few of them with common divisors, make one of about 90000 bits; this must not take minutes.
	r := rand.New(rand.NewSource(5))
	long := func() *gobig.Rat {
		return new(gobig.Rat).SetFrac(gobig.NewInt(1+r.Int63n(1<<60)), gobig.NewInt(1+r.Int63n(1<<60)))
	}
	s, y := api.System{N: 2}, []api.Frac{}
	p, q := new(gobig.Int), gobig.NewInt(1)
	for range 1500 {
		coef, by := long(), long()
		f := of(coef)
		s.Rows = append(s.Rows, api.Row{Terms: []api.Term{{Var: 1, Coef: f}}, Kind: api.RoLeast, Value: f})
		y = append(y, of(by))
		product := new(gobig.Rat).Mul(coef, by)
		p.Add(p.Mul(p, product.Denom()), new(gobig.Int).Mul(product.Num(), q))
		q.Mul(q, product.Denom())
	}
	want := of(new(gobig.Rat).SetFrac(p, q))
	l, f := dual.Mix(s, y)
	if !equalTerms(l, []api.Term{{Var: 1, Coef: want}}) || !equal(f, want) {
		t.Error("the mix of many long rows is wrong")
	}
	if bound, is := dual.Lower(s, l, y); !is || !equal(bound, want) {
		t.Error("the bound of many long rows is wrong")
	}
}

func TestMixOfManyTerms(t *testing.T) {
	// All rows have all variables, and all rows are mixed.
	s, _ := great(400)
	y := make([]api.Frac, 400)
	for i := range y {
		y[i] = raw(strconv.Itoa(i%3-1) + "/1")
	}
	half := make([]*gobig.Rat, api.MaxVars)
	value := new(gobig.Rat)
	for v := range half {
		half[v] = new(gobig.Rat)
	}
	for i, w := range s.Rows {
		for _, u := range w.Terms {
			half[u.Var].Add(half[u.Var], gobig.NewRat(int64(i%3-1), 2))
		}
		value.Add(value, rat(int64(i*(i%3-1))))
	}
	if l, f := dual.Mix(s, y); !equalTerms(l, listOf(half)) || !equal(f, of(value)) {
		t.Error("the mix of many terms is wrong")
	}
}

// P9.6

// spareBig is an integer whose slice has elements beyond its length; they must be neither read nor written.
func spareBig(a api.Big) api.Big {
	n := len(a.Digits)
	return api.Big{Sign: a.Sign, Digits: append(slices.Clone(a.Digits), 1, -5, top+1)[:n]}
}

func spareFrac(f api.Frac) api.Frac { return parts(spareBig(f.P), spareBig(f.Q)) }

// spareAll is a list of fractions with elements beyond its length.
func spareAll(x []api.Frac) []api.Frac {
	var l []api.Frac
	for _, f := range x {
		l = append(l, spareFrac(f))
	}
	return append(l, raw("2/4"), raw("77"))[:len(x)]
}

// spareTerms is a list of terms with elements beyond its length.
func spareTerms(l []api.Term) []api.Term {
	var out []api.Term
	for _, t := range l {
		out = append(out, api.Term{Var: t.Var, Coef: spareFrac(t.Coef)})
	}
	return append(out, api.Term{Var: -3, Coef: raw("2/4")}, api.Term{Var: 1, Coef: raw("77")})[:len(l)]
}

func spareSystem(s api.System) api.System {
	out := api.System{N: s.N}
	for _, w := range s.Rows {
		out.Rows = append(out.Rows, api.Row{Terms: spareTerms(w.Terms), Kind: w.Kind, Value: spareFrac(w.Value)})
	}
	return api.System{N: s.N, Rows: append(out.Rows, api.Row{Kind: -9, Value: raw("77")})[:len(s.Rows)]}
}

func spareOptimum(o api.Optimum) api.Optimum {
	return api.Optimum{Kind: o.Kind, Value: spareFrac(o.Value), X: spareAll(o.X), Y: spareAll(o.Y), Ray: spareAll(o.Ray)}
}

func cleanBig(a, b api.Big) bool {
	n := len(a.Digits)
	return equalBig(a, b) && slices.Equal(a.Digits[n:n+3], []int{1, -5, top + 1})
}

// cleanFrac reports whether a fraction made by spareFrac is as it was; the following functions report it for others.
func cleanFrac(a, b api.Frac) bool { return cleanBig(a.P, b.P) && cleanBig(a.Q, b.Q) }

func cleanAll(a, b []api.Frac) bool {
	n := len(a)
	return slices.EqualFunc(a, b, cleanFrac) && equal(a[:n+2][n], raw("2/4")) && equal(a[:n+2][n+1], raw("77"))
}

func cleanTerms(a, b []api.Term) bool {
	n := len(a)
	is := slices.EqualFunc(a, b, func(t, u api.Term) bool { return t.Var == u.Var && cleanFrac(t.Coef, u.Coef) })
	return is && a[:n+2][n].Var == -3 && equal(a[:n+2][n].Coef, raw("2/4")) && a[:n+2][n+1].Var == 1 && equal(a[:n+2][n+1].Coef, raw("77"))
}

func cleanSystem(a, b api.System) bool {
	n := len(a.Rows)
	is := slices.EqualFunc(a.Rows, b.Rows, func(w, v api.Row) bool {
		return w.Kind == v.Kind && cleanTerms(w.Terms, v.Terms) && cleanFrac(w.Value, v.Value)
	})
	return is && a.N == b.N && a.Rows[:n+1][n].Kind == -9 && equal(a.Rows[:n+1][n].Value, raw("77"))
}

func cleanOptimum(a, b api.Optimum) bool {
	return a.Kind == b.Kind && cleanFrac(a.Value, b.Value) && cleanAll(a.X, b.X) && cleanAll(a.Y, b.Y) && cleanAll(a.Ray, b.Ray)
}

// spoil fills each of the slices, up to its capacity, with a number of its own, and reports whether they keep them: whether no two of them share memory.
func spoil(slicesOf ...[]int) bool {
	for i, d := range slicesOf {
		d = d[:cap(d)]
		for k := range d {
			d[k] = -1 - i
		}
	}
	for i, d := range slicesOf {
		for _, n := range d[:cap(d)] {
			if n != -1-i {
				return false
			}
		}
	}
	return true
}

// spoilMix spoils the digits of terms and of a value, then the terms, up to the capacity.
func spoilMix(l []api.Term, f api.Frac) bool {
	all := [][]int{f.P.Digits, f.Q.Digits}
	for _, t := range l {
		all = append(all, t.Coef.P.Digits, t.Coef.Q.Digits)
	}
	is := spoil(all...)
	l = l[:cap(l)]
	for i := range l {
		l[i] = api.Term{Var: -7}
	}
	return is
}

func spoilAll(x []api.Frac) {
	for _, f := range x {
		spoil(f.P.Digits, f.Q.Digits)
	}
}

// call is a system, right or not, with a goal and lists for it.
type call struct {
	s    api.System
	goal string
	y, x string
}

func calls() []call {
	long := "340282366920938463463374607431768211456"
	s := system(3, "0:1 1:1 >= 4", "0:1 <= 3", "0:1 2:-1 == 1")
	return []call{
		{s, "1:1", "1 -1 0", "3 1 2"}, {s, "1:1", "1 -1 0", "0 1 0"}, {s, "1:-1", "1 -1 0", "0 1 0"}, {s, "1:1", "1 -1", "0 1"}, {s, "1:1", "1 -1 2/4", "0 1 2/4"}, {s, "3:1", "1 1 1", "0 -1 0"}, {s, "0:-2 1:1 2:2", "1 -1 -2", "1 0 1"}, {s, "", "0 0 0", "0 0 0"},
		{system(2, "0:"+long+" 1:1/3 >= "+long, "1:1/"+long+" >= 1/7", "0:1 == 2"), "0:" + long + " 1:5", "1 " + long + " 1/" + long, "1 " + long},
		{system(1, "0:1 >= 3", "0:1 <= 2"), "0:1", "1 -1", "3"}, {system(0), "", "", ""}, {system(0, ">= 1"), "", "1", ""}, {system(1), "0:-1", "", "1"}, {system(-1), "", "", ""}, {system(1, "1:1 >= 1"), "0:1", "1", "1"}, {system(1, "0:1 >= 2/4"), "0:1", "1", "1"},
		{system(2, "0:1 1:1 >= 1", "0:-1 1:-1 >= -1"), "0:1 1:1", "1 1", "1 0"}, {system(4, "0:1 >= 1", "1:1 >= 2", "2:1 >= 3", "3:1 >= 4"), "0:1 1:1 2:1 3:1", "1 1 1 1", "1 2 3 4"},
	}
}

func TestMemory(t *testing.T) {
	for _, c := range calls() {
		s, goal, y := spareSystem(c.s), spareTerms(terms(c.goal)), spareAll(point(c.y))
		wantTerms, wantValue := dual.Mix(c.s, point(c.y))
		wantBound, wantIs := dual.Lower(c.s, terms(c.goal), point(c.y))
		l, f := dual.Mix(s, y)
		bound, is := dual.Lower(s, goal, y)
		if !equalTerms(l, wantTerms) || !equal(f, wantValue) || !equal(bound, wantBound) || is != wantIs {
			t.Fatalf("what lies beyond the arguments counts: %s with %s", showSystem(c.s), c.y)
		}
		if !spoilMix(l, f) || !spoil(bound.P.Digits, bound.Q.Digits) || !cleanSystem(s, c.s) || !cleanTerms(goal, terms(c.goal)) || !cleanAll(y, point(c.y)) {
			t.Fatalf("Mix or Lower changes an argument, or shares memory: %s with %s", showSystem(c.s), c.y)
		}
		l, f = dual.Mix(s, y)
		bound, is = dual.Lower(s, goal, y)
		spoilMix(goal, api.Frac{})
		spoilAll(y)
		for _, w := range s.Rows {
			spoilMix(w.Terms, w.Value)
		}
		if !equalTerms(l, wantTerms) || !equal(f, wantValue) || !equal(bound, wantBound) || is != wantIs {
			t.Fatalf("another result the second time, or memory of an argument: %s with %s", showSystem(c.s), c.y)
		}
	}
}

func TestArgumentsStayAsTheyAre(t *testing.T) {
	for _, c := range calls() {
		y, x := point(c.y), point(c.x)
		value, _ := linear.Value(terms(c.goal), x)
		s, goal, p, q := spareSystem(c.s), spareTerms(terms(c.goal)), spareAll(y), spareAll(x)
		if dual.Signed(s, p) != dual.Signed(c.s, y) || dual.Refutes(s, p) != dual.Refutes(c.s, y) || dual.Ray(s, goal, q) != dual.Ray(c.s, terms(c.goal), x) {
			t.Errorf("what lies beyond the arguments counts: %s with %s, %s", showSystem(c.s), c.y, c.x)
		}
		for _, o := range []api.Optimum{{Kind: api.OpFound, Value: value, X: x, Y: y}, {Kind: api.OpNone, Y: y}, {Kind: api.OpFree, X: x, Ray: x}, {Kind: api.OpKinds, Value: value, X: x, Y: y, Ray: x}} {
			a := spareOptimum(o)
			first := dual.Check(s, goal, a)
			if first != dual.Check(c.s, terms(c.goal), o) || first != dual.Check(s, goal, a) || !cleanOptimum(a, o) {
				t.Errorf("Check of %s depends on what lies beyond the arguments, or changes them", showSystem(c.s))
			}
		}
		if !cleanSystem(s, c.s) || !cleanTerms(goal, terms(c.goal)) || !cleanAll(p, y) || !cleanAll(q, x) {
			t.Errorf("an argument was changed: %s with %s, %s", showSystem(c.s), c.y, c.x)
		}
	}
}

func TestPartsThatShareTheirDigits(t *testing.T) {
	// Arguments may share memory with each other; results may not.
	d := []int{1}
	one := parts(digits(1, d...), digits(1, d...))
	w := api.Row{Terms: []api.Term{{Var: 0, Coef: one}, {Var: 1, Coef: one}}, Kind: api.RoLeast, Value: one}
	s := api.System{N: 2, Rows: []api.Row{w}}
	l, f := dual.Mix(s, []api.Frac{one})
	bound, is := dual.Lower(s, w.Terms, []api.Frac{one})
	if len(l) != 2 || !is || !spoilMix(l, f) || !spoil(bound.P.Digits, bound.Q.Digits) || d[0] != 1 {
		t.Error("a result shares memory")
	}
	x := []api.Frac{one, raw("0")}
	if !dual.Check(s, w.Terms, api.Optimum{Value: one, X: x, Y: x[:1]}) {
		t.Error("Check of arguments that share memory is false")
	}
	s.Rows = append(s.Rows, w)
	l, f = dual.Mix(s, []api.Frac{one, raw("0")})
	m, g := dual.Mix(s, []api.Frac{one, raw("0")})
	if !spoilMix(append(l, m...), f) || !spoil(f.P.Digits, f.Q.Digits, g.P.Digits, g.Q.Digits) || d[0] != 1 {
		t.Error("two results share memory")
	}
}

func TestCallsSideBySide(t *testing.T) {
	shared := calls()
	var group sync.WaitGroup
	for range 4 {
		group.Go(func() {
			for _, c := range shared {
				l, f := dual.Mix(c.s, point(c.y))
				again, g := dual.Mix(spareSystem(c.s), point(c.y))
				if !equalTerms(l, again) || !equal(f, g) || dual.Ray(c.s, terms(c.goal), point(c.x)) != dual.Ray(spareSystem(c.s), terms(c.goal), point(c.x)) {
					t.Errorf("the results of %s depend on other calls", showSystem(c.s))
				}
			}
		})
	}
	group.Wait()
}
