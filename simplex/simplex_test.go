package simplex_test

import (
	"math"
	gobig "math/big"
	"math/rand"
	"slices"
	"strconv"
	"strings"
	"sync"
	"testing"

	"kerbside/api"
	"kerbside/dual"
	"kerbside/linear"
	"kerbside/simplex"
)

// The chapter's examples.

func TestExamples(t *testing.T) {
	o := bestIs(t, system(2, "0:1 1:2 >= 4\n 0:3 1:1 >= 6"), terms("0:1 1:1"), "14/5")
	if !equalAll(o.X, point("8/5 6/5")) || !equalAll(o.Y, point("2/5 1/5")) {
		t.Errorf("the least value at %s, proved by %s", showAll(o.X), showAll(o.Y))
	}
	bestIs(t, system(1, "0:1 >= 3\n 0:1 <= 2"), terms("0:1"), "none")
	o = bestIs(t, system(2, "0:1 1:-1 <= 1"), terms("0:-1"), "free")
	if !equal(o.Ray[0], o.Ray[1]) {
		t.Errorf("the ray is %s", showAll(o.Ray))
	}
	bestIs(t, api.System{}, nil, "0")
	refused(t, system(1, ""), terms("1:1"))
}

// refused checks that Least refuses a system or a goal, and Solution a system.
func refused(t *testing.T, s api.System, goal []api.Term) {
	t.Helper()
	if o, e := simplex.Least(s, goal); e != api.ErrArg || !isZero(o) {
		t.Errorf("Least of %v, goal %v, is %s, error %d", s, goal, showOptimum(o), e)
	}
	if linear.Right(s) {
		return
	}
	if x, y, ok := simplex.Solution(s); ok || len(x)+len(y) > 0 {
		t.Errorf("Solution of %v is %s, %s, %t", s, showAll(x), showAll(y), ok)
	}
}

// P10.1 and P10.2: what is not right.

// wrongs are fractions that are not right.
func wrongs() []api.Frac {
	one := raw("1").P
	l := []api.Frac{{}, {P: one}, {P: one, Q: api.Big{Sign: 2, Digits: []int{1}}}, {P: api.Big{Sign: 1}, Q: one}, {P: api.Big{Sign: 1, Digits: []int{top + 1}}, Q: one}, {P: api.Big{Sign: 1, Digits: []int{1, 0}}, Q: one}, {P: api.Big{Digits: []int{0}}, Q: one}, {P: one, Q: api.Big{Sign: 1, Digits: []int{-1}}}}
	for _, s := range []string{"2/4", "0/2", "1/0", "0/0", "1/-1", "-1/-1", "3000000000000000000000000000000/9"} {
		l = append(l, raw(s))
	}
	return l
}

func TestSystemsThatAreNotRight(t *testing.T) {
	for _, n := range []int{-1, math.MinInt, api.MaxVars + 1, math.MaxInt} {
		refused(t, api.System{N: n}, nil)
		refused(t, system(n, "0:1 >= 1"), terms("0:1"))
	}
	rows := []api.Row{{}, {Kind: -1, Value: raw("0")}, {Kind: api.RoKinds, Value: raw("0")}, {Kind: math.MaxInt, Value: raw("0")}, {Kind: math.MinInt, Value: raw("0")}}
	for _, s := range []string{"2:1 >= 0", "-1:1 >= 0", "0:1 2:1 <= 0", "1:1 0:1 == 0", "1:1 1:1 == 0", "0:0 >= 0", "0:1 1:0 >= 0"} {
		rows = append(rows, row(s))
	}
	for _, f := range wrongs() {
		rows = append(rows, api.Row{Value: f}, api.Row{Terms: []api.Term{{Coef: f}}, Value: raw("0")})
	}
	for _, w := range rows {
		for i := range 3 {
			s := system(2, "0:1 1:1 >= 1\n 0:1 == 5")
			s.Rows = slices.Insert(s.Rows, i, w)
			refused(t, s, nil)
			refused(t, s, terms("0:1"))
			// A system that has no solution all the same.
			s.Rows = append(s.Rows, row(">= 1"))
			refused(t, s, nil)
		}
	}
}

func TestGoalsThatAreNotRight(t *testing.T) {
	goals := [][]api.Term{terms("2:1"), terms("0:1 2:1"), terms("-1:1"), terms("1:1 0:1"), terms("1:1 1:1"), terms("0:0"), terms("0:1 1:0"), terms("9223372036854775807:1")}
	for _, f := range wrongs() {
		goals = append(goals, []api.Term{{Coef: f}}, []api.Term{{Coef: raw("1")}, {Var: 1, Coef: f}})
	}
	for _, goal := range goals {
		for _, rows := range []string{"", "0:1 1:1 >= 1", ">= 1", "0:1 1:-1 == 0"} {
			refused(t, system(2, rows), goal)
			best(t, system(2, rows), nil)
		}
	}
	refused(t, system(0, ""), terms("0:1"))
	refused(t, system(0, ">= 1"), terms("0:1"))
}

// P10.1 and P10.2: the three cases.

func TestNoRowsNoVariablesNoTerms(t *testing.T) {
	for _, s := range []api.System{{}, {Rows: []api.Row{}}} {
		for _, goal := range [][]api.Term{nil, {}} {
			bestIs(t, s, goal, "0")
		}
	}
	for n := 1; n <= 4; n++ {
		o := bestIs(t, system(n, ""), nil, "0")
		if !linear.Holds(system(n, ""), o.X) {
			t.Error("no solution without rows")
		}
		bestIs(t, system(n, ""), whole(3, 1, 4, 1)[:n], "0")
		bestIs(t, system(n, ""), whole(3, 1, 4, -1)[n-1:n], []string{"0", "0", "0", "free"}[n-1])
		bestIs(t, system(n, ""), whole(-1, 9, 9, 9)[:n], "free")
	}
	for _, c := range []struct{ rows, want string }{
		{">= 0", "0"}, {"<= 0", "0"}, {"== 0", "0"}, {">= -1", "0"}, {"<= 1/7", "0"}, {">= 1", "none"}, {"<= -1/7", "none"}, {"== 1", "none"}, {"== -1", "none"}, {">= -1\n <= 1\n == 0", "0"}, {">= -1\n <= 1\n == 0\n >= 1/1000000000000000000000", "none"}, {"<= -1\n >= 1\n == 1", "none"},
	} {
		for n := range 3 {
			bestIs(t, system(n, c.rows), nil, c.want)
		}
		free := map[string]string{"0": "free", "none": "none"}
		bestIs(t, system(2, c.rows), terms("0:1 1:-1"), free[c.want])
		bestIs(t, system(2, c.rows), terms("0:1"), c.want)
	}
}

func TestCases(t *testing.T) {
	for _, c := range []struct{ rows, goal, want string }{
		// Rows that follow from others, that are equal, or that contradict each other.
		{"0:1 >= 2\n 0:1 >= 1\n 0:1 >= 2", "0:3", "6"}, {"0:1 >= 2\n 0:2 >= 4\n 0:1/3 >= 2/3\n 0:-1 <= -2", "0:1", "2"}, {"0:1 1:1 == 3\n 0:2 1:2 == 6\n 0:-1 1:-1 == -3", "0:1 1:2", "3"}, {"0:1 1:1 == 3\n 0:2 1:2 == 7", "0:1", "none"}, {"0:1 1:1 == 3\n 0:1 1:-1 == 1\n 0:1 == 2\n 1:1 == 1\n 0:3 1:7 == 13", "0:-1 1:-1", "-3"}, {"0:1 1:1 == 3\n 0:1 1:-1 == 1\n 0:3 1:7 == 14", "", "none"},
		{"0:1 1:1 >= 3\n 0:1 1:1 <= 3", "0:1", "0"}, {"0:1 1:1 >= 3\n 0:1 1:1 <= 5/2", "0:1", "none"}, {"0:1 >= 1\n 1:1 >= 1\n 0:1 1:1 >= 2\n 0:1 1:1 <= 2", "0:-5 1:7", "2"}, {"0:1 1:1 2:1 <= 0", "0:-1 1:-1 2:-9", "0"}, {"0:1 1:1 2:1 == 0\n 0:1 == 0", "0:-1 1:-1 2:-9", "0"}, {"0:1 == -1", "", "none"}, {"0:-1 == -1/2", "0:-2", "-1"}, {"0:1 1:1 <= -1", "0:1", "none"}, {"0:-1 1:-2 >= 1", "0:1", "none"},
		// Variables that no row has, in the goal or not.
		{"1:1 >= 1", "1:1", "1"}, {"1:1 >= 1", "0:1 1:1 2:1", "1"}, {"1:1 >= 1", "2:-1", "free"}, {"1:1 >= 1\n 1:1 <= 0", "2:-1", "none"},
		// Values below 0, 0 and above 0.
		{"0:1 1:-1 == 0\n 0:1 >= 5", "1:1", "5"}, {"0:1 1:-1 == -2\n 0:1 1:1 >= 5", "1:1", "7/2"}, {"0:1 1:-1 == 2\n 0:1 1:1 >= 5", "1:1", "3/2"}, {"0:1 1:-1 >= -2", "1:-1", "free"}, {"0:1 1:-1 >= -2\n 0:1 <= 3", "1:-1", "-5"}, {"0:-1 1:-1 <= -4", "0:2 1:3", "8"}, {"0:-1 1:1 >= 0\n 1:1 2:-1 <= 0\n 2:1 <= 4", "0:-1", "-4"},
		// Goals without a least value although each variable has a greatest one along some row, and the other way round.
		{"0:1 1:-1 <= 1\n 0:-1 1:1 <= 1", "0:-1", "free"}, {"0:1 1:-1 <= 1\n 0:-1 1:1 <= 1", "0:-1 1:1", "-1"}, {"0:1 1:-1 <= 1\n 0:-1 1:1 <= 1", "0:1 1:-1", "-1"}, {"0:1 1:-2 >= 0", "0:-1 1:3", "free"}, {"0:1 1:-2 >= 0", "0:1 1:-2", "0"}, {"0:1 1:-2 >= 0", "0:1 1:-3", "free"}, {"0:1 1:-2 == 0", "0:-1 1:2", "0"}, {"0:1 1:-2 == 0", "0:1 1:-3", "free"}, {"0:1 1:1 2:-1 == 0", "2:-1", "free"},
	} {
		s, goal := system(3, c.rows), terms(c.goal)
		if want := expected(s, goal); want != c.want {
			t.Errorf("the model says %s for %s, want %s", want, showSystem(s, goal), c.want)
		}
		bestIs(t, s, goal, c.want)
	}
}

// TestPointsWithManyRows has systems in which a careless choice of exchanges goes round for ever, or for long, because several rows are just kept at one point.
func TestPointsWithManyRows(t *testing.T) {
	for _, c := range []struct {
		n                int
		rows, goal, want string
	}{
		{4, "0:1/4 1:-8 2:-1 3:9 <= 0\n 0:1/2 1:-12 2:-1/2 3:3 <= 0\n 2:1 <= 1", "0:-3/4 1:20 2:-1/2 3:6", "-5/4"},
		{4, "0:1/2 1:-11/2 2:-5/2 3:9 <= 0\n 0:1/2 1:-3/2 2:-1/2 3:1 <= 0\n 0:1 <= 1", "0:-10 1:57 2:9 3:24", "-1"},
		{7, "0:1 3:-2 4:-9 5:1 6:9 == 0\n 1:1 3:1/3 4:1 5:-1/3 6:-2 == 0\n 2:1 3:2 4:3 5:-1 6:-12 == 2", "3:-2 4:-3 5:1 6:12", "-2"},
		{7, "0:1 4:3/5 5:-32/5 6:24/5 == 0\n 1:1 4:1/5 5:-9/5 6:3/5 == 0\n 2:1 4:2/5 5:-8/5 6:1/5 == 0\n 3:1 5:1 == 1", "4:-2/5 5:-2/5 6:9/5", "-2"},
		{7, "0:1 2:1 3:-2 4:-3 5:4 == 0\n 1:1 2:4 3:-3 4:-2 5:1 == 0\n 2:1 3:1 4:1 5:1 6:1 == 1", "2:-1 3:1 4:-1 5:1", "-1"},
		{4, "0:1 1:2 2:-9 3:-3 <= 0\n 0:-2 1:-9 2:1 3:9 <= 0\n 0:1/3 1:1 2:-1/3 3:-2 <= 0", "0:-2 1:-3 2:1 3:12", "free"},
	} {
		s, goal := system(c.n, c.rows), terms(c.goal)
		if want := expected(s, goal); want != c.want {
			t.Errorf("the model says %s for %s, want %s", want, showSystem(s, goal), c.want)
		}
		bestIs(t, s, goal, c.want)
	}
	// Systems of which all rows have the value 0, and hold just so at the point 0.
	r := rand.New(rand.NewSource(3))
	for i := range 600 {
		s := api.System{N: 1 + i%4}
		for range 2 + r.Intn(5) {
			s.Rows = append(s.Rows, api.Row{Terms: someTerms(r, s.N, 3), Kind: r.Intn(api.RoKinds), Value: raw("0")})
		}
		agrees(t, s, someTerms(r, s.N, 3))
		s.Rows = append(s.Rows, api.Row{Terms: whole(1, 1, 1, 1)[:s.N], Kind: api.RoMost, Value: raw("1")})
		agrees(t, s, someTerms(r, s.N, 3))
	}
}

func TestRefutationsOfManyRows(t *testing.T) {
	// x0 is at least 1, each other variable is at least 1 more than twice the one before, and the last one is less than that allows: each row is needed.
	for n := 1; n <= 60; n++ {
		s := system(n, "0:1 >= 1")
		last := gobig.NewInt(1)
		for v := 1; v < n; v++ {
			s.Rows = append(s.Rows, api.Row{Terms: []api.Term{{Var: v - 1, Coef: raw("-2")}, {Var: v, Coef: raw("1")}}, Kind: api.RoLeast, Value: raw("1")})
			last.Add(last.Lsh(last, 1), gobig.NewInt(1))
		}
		just := []api.Term{{Var: n - 1, Coef: raw("1")}}
		bestIs(t, s, just, last.String())
		s.Rows = append(s.Rows, api.Row{Terms: just, Kind: api.RoMost, Value: api.Frac{P: ofInt(last), Q: raw("1").Q}})
		bestIs(t, s, terms("0:-1"), "-1")
		s.Rows[n].Value = of(new(gobig.Rat).Sub(new(gobig.Rat).SetInt(last), gobig.NewRat(1, 1000)))
		o := bestIs(t, s, terms("0:1"), "none")
		for i, f := range o.Y {
			if f.P.Sign == 0 {
				t.Fatalf("the row %d of %d is not needed", i, n+1)
			}
		}
	}
}

func TestRaysOfManyVariables(t *testing.T) {
	// Each variable is twice the one before, or more, and the last one has no bound.
	for _, sign := range []string{"==", ">="} {
		for n := 2; n <= 60; n++ {
			s := system(n, "")
			for v := 1; v < n; v++ {
				s.Rows = append(s.Rows, row(strconv.Itoa(v-1)+":-2 "+strconv.Itoa(v)+":1 "+sign+" "+strconv.Itoa(v%3-1)))
			}
			o := bestIs(t, s, terms("0:-1"), "free")
			for v, f := range o.Ray {
				if f.P.Sign <= 0 {
					t.Fatalf("the variable %d of %d does not grow", v, n)
				}
			}
		}
	}
}

// Systems whose best value is known otherwise.

func TestSkewCubes(t *testing.T) {
	// The corners of a cube that is so skew that the steepest way leads past all of them (Klee and Minty).
	for _, n := range []int{1, 2, 3, 8, 40} {
		s := api.System{N: n}
		goal := make([]api.Term, n)
		power := func(base, e int) api.Frac {
			return api.Frac{P: ofInt(new(gobig.Int).Exp(gobig.NewInt(int64(base)), gobig.NewInt(int64(e)), nil)), Q: raw("1").Q}
		}
		for i := range n {
			w := api.Row{Kind: api.RoMost, Value: power(5, i+1)}
			for v := range i {
				w.Terms = append(w.Terms, api.Term{Var: v, Coef: power(2, i-v+1)})
			}
			w.Terms = append(w.Terms, api.Term{Var: i, Coef: raw("1")})
			s.Rows = append(s.Rows, w)
			goal[i] = api.Term{Var: i, Coef: linear.Times([]api.Term{{Coef: power(2, n-1-i)}}, raw("-1"))[0].Coef}
		}
		bestIs(t, s, goal, "-"+showFrac(power(5, n)))
	}
}

func TestAssignments(t *testing.T) {
	// The cheapest one of all permutations; all of them are corners at which many rows hold just so.
	r := rand.New(rand.NewSource(4))
	for n := 1; n <= 6; n++ {
		s := api.System{N: n * n}
		costs := make([]int, n*n)
		for v := range costs {
			costs[v] = r.Intn(20)
		}
		for i := range n {
			line, column := make([]int, n*n), make([]int, n*n)
			for k := range n {
				line[i*n+k], column[k*n+i] = 1, 1
			}
			s.Rows = append(s.Rows, wholeRow(api.RoEqual, 1, line...), wholeRow(api.RoEqual, 1, column...))
		}
		least := math.MaxInt
		for _, l := range permutations(n) {
			sum := 0
			for i, k := range l {
				sum += costs[i*n+k]
			}
			least = min(least, sum)
		}
		bestIs(t, s, whole(costs...), strconv.Itoa(least))
	}
}

func permutations(n int) [][]int {
	if n == 0 {
		return [][]int{{}}
	}
	var all [][]int
	for _, l := range permutations(n - 1) {
		for i := range n {
			all = append(all, slices.Insert(slices.Clone(l), i, n-1))
		}
	}
	return all
}

func TestShortestWays(t *testing.T) {
	// How far each node can be from the node 0, if no arc is longer than its length: the shortest way, or any distance.
	r := rand.New(rand.NewSource(5))
	const nodes, never = 70, math.MaxInt / 2
	for _, arcs := range []int{80, 400} {
		s, far := system(nodes, "0:1 == 0"), slices.Repeat([]int{never}, nodes)
		far[0] = 0
		var ways [][3]int
		for range arcs {
			from, to, length := r.Intn(nodes), r.Intn(nodes), r.Intn(30)
			if from == to {
				continue
			}
			ways = append(ways, [3]int{from, to, length})
			l := make([]int, nodes)
			l[from], l[to] = -1, 1
			s.Rows = append(s.Rows, wholeRow(api.RoMost, length, l...))
		}
		for range nodes {
			for _, w := range ways {
				far[w[1]] = min(far[w[1]], far[w[0]]+w[2])
			}
		}
		for v := range nodes {
			want := strconv.Itoa(-far[v])
			if far[v] >= never {
				want = "free"
			}
			bestIs(t, s, terms(strconv.Itoa(v)+":-1"), want)
		}
	}
}

func TestDemands(t *testing.T) {
	// Goods for a demand, the cheapest by weight first.
	r := rand.New(rand.NewSource(6))
	for n := 1; n <= 80; n++ {
		s, goal := api.System{N: n}, make([]int, n)
		var order []int
		demand, value := make([]int, n), new(gobig.Rat)
		left := 50 * n
		for v := range n {
			goal[v], demand[v] = r.Intn(1000), 1+r.Intn(90)
			order = append(order, v)
			one := make([]int, v+1)
			one[v] = 1
			s.Rows = append(s.Rows, wholeRow(api.RoMost, 1+v%7, one...))
		}
		s.Rows = append(s.Rows, wholeRow(api.RoLeast, left, demand...))
		slices.SortFunc(order, func(a, b int) int { return goal[a]*demand[b] - goal[b]*demand[a] })
		for _, v := range order {
			share := min(left, demand[v]*(1+v%7))
			left -= share
			value.Add(value, gobig.NewRat(int64(share*goal[v]), int64(demand[v])))
		}
		if left > 0 {
			bestIs(t, s, whole(goal...), "none")
		} else {
			bestIs(t, s, whole(goal...), value.RatString())
		}
	}
}

func TestFractionsOfManyDigits(t *testing.T) {
	// The only solution of rows RoEqual, the rows of each kind at one point, and what is just not allowed there.
	r := rand.New(rand.NewSource(7))
	for _, c := range []struct{ n, bits int }{{1, 4000}, {2, 1000}, {4, 300}, {7, 100}, {12, 30}} {
		s, x := someSolved(r, c.n, 2*c.n, c.bits)
		for i := range s.Rows {
			s.Rows[i].Kind = api.RoEqual
			s.Rows[i].Value, _ = linear.Value(s.Rows[i].Terms, x)
		}
		goal := someTerms(r, c.n, c.bits)
		value, _ := linear.Value(goal, x)
		if o := bestIs(t, s, goal, showFrac(value)); !equalAll(o.X, x) {
			t.Errorf("the solution is %s, want %s", showAll(o.X), showAll(x))
		}
		tiny := new(gobig.Rat).SetFrac(gobig.NewInt(1), new(gobig.Int).Lsh(gobig.NewInt(1), 5000))
		w := api.Row{Terms: goal, Kind: api.RoMost, Value: value}
		s.Rows = append(s.Rows, w)
		bestIs(t, s, nil, "0")
		s.Rows[2*c.n].Value = of(tiny.Sub(ratOf(value), tiny))
		bestIs(t, s, goal, "none")
	}
}

// Limits.

func TestGreatestSystems(t *testing.T) {
	// Each variable has four rows; the greatest least value of all of them is v + 3, and the least greatest one 2 v + 5.
	s, goal := api.System{N: api.MaxVars}, make([]api.Term, api.MaxVars)
	for v := range goal {
		goal[v] = api.Term{Var: v, Coef: raw("1")}
		for _, end := range []string{":2 >= " + strconv.Itoa(2*v+6), ":1 >= 2", ":1/3 <= " + strconv.Itoa(v*v), ":1 <= " + strconv.Itoa(2*v+5)} {
			s.Rows = append(s.Rows, row(strconv.Itoa(v)+end))
		}
		s.Rows[4*v+2].Value = raw(strconv.Itoa(v*v + 10))
	}
	n := api.MaxVars
	bestIs(t, s, goal, strconv.Itoa(n*(n-1)/2+3*n))
	bestIs(t, s, linear.Times(goal, raw("-1")), strconv.Itoa(-n*(n-1)-5*n))
	s.Rows[0].Value = raw("11")
	bestIs(t, s, goal, "none")
	s.Rows = append(s.Rows, s.Rows[0])
	refused(t, s, goal)
	refused(t, api.System{N: n + 1}, nil)
}

func TestLongChains(t *testing.T) {
	// Each variable is at least 1 more than twice the one before; or exactly 1 more than that.
	const n, fewer = api.MaxVars, 700
	s, steps := api.System{N: fewer}, api.System{N: n}
	for v := 1; v < n; v++ {
		steps.Rows = append(steps.Rows, row(strconv.Itoa(v-1)+":-1 "+strconv.Itoa(v)+":1 == 1"))
		if v < fewer {
			s.Rows = append(s.Rows, row(strconv.Itoa(v-1)+":-2 "+strconv.Itoa(v)+":1 >= 1"))
		}
	}
	want := new(gobig.Int).Lsh(gobig.NewInt(1), fewer-1)
	bestIs(t, s, []api.Term{{Var: fewer - 1, Coef: raw("1")}}, want.Sub(want, gobig.NewInt(1)).String())
	bestIs(t, s, terms("0:1"), "0")
	last := []api.Term{{Var: n - 1, Coef: raw("1")}}
	bestIs(t, steps, last, strconv.Itoa(n-1))
	bestIs(t, steps, terms("0:-1"), "free")
	steps.Rows = append(steps.Rows, api.Row{Terms: last, Kind: api.RoMost, Value: raw("3/2")})
	bestIs(t, steps, last, "none")
}

func TestWideSystemsOfLongFractions(t *testing.T) {
	// Many more variables than rows, and the other way round: no two coefficients have a common denominator.
	r := rand.New(rand.NewSource(9))
	for _, size := range [][2]int{{80, 6}, {6, 80}} {
		s, goal := api.System{N: size[0]}, []api.Term{}
		for v := range s.N {
			goal = append(goal, api.Term{Var: v, Coef: longFraction(r)})
		}
		for i := range size[1] {
			w := api.Row{Kind: i % api.RoEqual, Value: longFraction(r)}
			for v := range s.N {
				w.Terms = append(w.Terms, api.Term{Var: v, Coef: longFraction(r)})
			}
			if w.Kind == api.RoMost {
				w.Value = linear.Times([]api.Term{{Coef: w.Value}}, raw("10000000000000000000000"))[0].Coef
			}
			s.Rows = append(s.Rows, w)
		}
		if o := best(t, s, goal); o.Kind != api.OpFound {
			t.Errorf("the least value of %d variables is %s", s.N, showOptimum(o))
		}
		best(t, s, linear.Times(goal, raw("-1")))
		// The goal has no bound where no row has an upper end.
		for i := range s.Rows {
			s.Rows[i].Kind = api.RoLeast
		}
		bestIs(t, s, linear.Times(goal, raw("-1")), "free")
		s.Rows = append(s.Rows, api.Row{Terms: goal, Kind: api.RoMost, Value: raw("-1/7")})
		bestIs(t, s, goal, "none")
	}
}

// longFraction returns a positive fraction of 60 bits.
func longFraction(r *rand.Rand) api.Frac {
	return of(new(gobig.Rat).SetFrac(gobig.NewInt(1+r.Int63n(1<<60)), gobig.NewInt(1+r.Int63n(1<<60))))
}

func TestManyLongDenominators(t *testing.T) {
	// The common denominator of all numbers would have some 100000 bits.
	r := rand.New(rand.NewSource(8))
	s := api.System{N: 300}
	goal := make([]api.Term, s.N)
	x := make([]*gobig.Rat, s.N)
	for v := range goal {
		goal[v] = api.Term{Var: v, Coef: longFraction(r)}
		x[v] = new(gobig.Rat)
	}
	for i := range 4 * s.N {
		coef, value := longFraction(r), longFraction(r)
		s.Rows = append(s.Rows, api.Row{Terms: []api.Term{{Var: i % s.N, Coef: coef}}, Kind: api.RoLeast, Value: value})
		if least := new(gobig.Rat).Quo(ratOf(value), ratOf(coef)); least.Cmp(x[i%s.N]) > 0 {
			x[i%s.N] = least
		}
	}
	o := best(t, s, goal)
	for v, f := range o.X {
		if !equal(f, of(x[v])) {
			t.Fatalf("the variable %d is %s, want %s", v, showFrac(f), x[v])
		}
	}
}

// P10.3

// spareFrac is a fraction whose slices have elements beyond their length; they must be neither read nor written.
func spareFrac(f api.Frac) api.Frac {
	spare := func(a api.Big) api.Big {
		return api.Big{Sign: a.Sign, Digits: append(slices.Clone(a.Digits), 1, -5, top+1)[:len(a.Digits)]}
	}
	return api.Frac{P: spare(f.P), Q: spare(f.Q)}
}

func spareTerms(l []api.Term) []api.Term {
	var out []api.Term
	for _, t := range l {
		out = append(out, api.Term{Var: t.Var, Coef: spareFrac(t.Coef)})
	}
	return append(out, api.Term{Var: -3, Coef: spareFrac(raw("2/4"))})[:len(l)]
}

func spareSystem(s api.System) api.System {
	out := api.System{N: s.N}
	for _, w := range s.Rows {
		out.Rows = append(out.Rows, api.Row{Terms: spareTerms(w.Terms), Kind: w.Kind, Value: spareFrac(w.Value)})
	}
	out.Rows = append(out.Rows, api.Row{Kind: -9, Value: spareFrac(raw("77"))})[:len(s.Rows)]
	return out
}

// numbers calls a function with all slices of digits of a system and a goal, up to the capacity of the slices they are in.
func numbers(s api.System, goal []api.Term, do func(d []int)) {
	ofFrac := func(f api.Frac) {
		do(f.P.Digits[:cap(f.P.Digits)])
		do(f.Q.Digits[:cap(f.Q.Digits)])
	}
	ofTerms := func(l []api.Term) {
		for _, t := range l[:cap(l)] {
			ofFrac(t.Coef)
		}
	}
	ofTerms(goal)
	for _, w := range s.Rows[:cap(s.Rows)] {
		ofTerms(w.Terms)
		ofFrac(w.Value)
	}
}

// snapshot returns all digits of a system and a goal, and what else they consist of.
func snapshot(s api.System, goal []api.Term) []int {
	l := []int{s.N, len(s.Rows), cap(s.Rows), len(goal), cap(goal)}
	numbers(s, goal, func(d []int) { l = append(append(l, len(d)), d...) })
	signs := func(f api.Frac) { l = append(l, f.P.Sign, f.Q.Sign, len(f.P.Digits), len(f.Q.Digits)) }
	for _, w := range append(s.Rows[:cap(s.Rows):cap(s.Rows)], api.Row{Terms: goal}) {
		l = append(l, w.Kind)
		signs(w.Value)
		for _, t := range w.Terms[:cap(w.Terms)] {
			l = append(l, t.Var)
			signs(t.Coef)
		}
	}
	return l
}

// alone reports whether no two slices of an optimum, or of the lists, share memory: each is filled, up to its capacity, with a number of its own, and keeps it.
func alone(o api.Optimum, lists ...[]api.Frac) bool {
	all := [][]int{o.Value.P.Digits, o.Value.Q.Digits}
	for _, l := range append(lists, o.X, o.Y, o.Ray) {
		for _, f := range l {
			all = append(all, f.P.Digits, f.Q.Digits)
		}
	}
	for i, d := range all {
		for k := range d[:cap(d)] {
			d[:cap(d)][k] = -1 - i
		}
	}
	for i, d := range all {
		if slices.ContainsFunc(d[:cap(d)], func(n int) bool { return n != -1-i }) {
			return false
		}
	}
	for _, l := range append(lists, o.X, o.Y, o.Ray) {
		for i := range l[:cap(l)] {
			l[:cap(l)][i] = api.Frac{P: api.Big{Sign: -7}}
		}
	}
	return true
}

type call struct {
	s    api.System
	goal []api.Term
}

// calls are systems with a goal, of each kind, and some that are not right.
func calls() []call {
	long := "340282366920938463463374607431768211456"
	var l []call
	for _, c := range []struct {
		n          int
		rows, goal string
	}{
		{3, "0:1 1:1 >= 4\n 0:1 <= 3\n 0:1 2:-1 == 1", "1:1"}, {3, "0:1 1:1 >= 4\n 0:1 <= 3\n 0:1 2:-1 == 1", "1:-1"}, {3, "0:1 1:1 >= 4\n 0:1 <= 3\n 0:1 2:-1 == 1\n 2:1 >= 3", "1:-1"}, {2, "0:" + long + " 1:1/3 >= " + long + "\n 1:1/" + long + " >= 1/7\n 0:1 == 2", "0:" + long + " 1:5"}, {2, "0:" + long + " 1:-1/" + long + " <= 1/" + long, "0:-1/" + long},
		{2, "0:" + long + " 1:1 >= 1\n 0:" + long + " 1:1 <= 1/" + long, "0:1"}, {0, "", ""}, {0, ">= 1", ""}, {2, "", "0:1"}, {2, "", "1:-1"}, {2, "0:1 >= 1\n 0:1 >= 1\n 0:1 == 1\n 0:1 <= 1", "0:1 1:1"}, {1, "0:1 >= 2/4", "0:1"}, {1, "1:1 >= 1", "0:1"}, {1, "0:1 >= 1", "0:2/4"}, {-1, "", ""},
	} {
		l = append(l, call{system(c.n, c.rows), terms(c.goal)})
	}
	return l
}

func TestMemory(t *testing.T) {
	for _, c := range calls() {
		s, goal := spareSystem(c.s), spareTerms(c.goal)
		before := snapshot(s, goal)
		want, wantError := simplex.Least(c.s, c.goal)
		wantX, wantY, wantOK := simplex.Solution(c.s)
		for range 2 {
			o, e := simplex.Least(s, goal)
			x, y, ok := simplex.Solution(s)
			if !equalOptima(o, want) || e != wantError || !equalAll(x, wantX) || !equalAll(y, wantY) || ok != wantOK {
				t.Fatalf("another result the second time, or memory of the first one, or what lies beyond the arguments counts: %v", c.s)
			}
			if !slices.Equal(before, snapshot(s, goal)) {
				t.Fatalf("an argument was changed: %v", c.s)
			}
			if !alone(o, x, y) || !slices.Equal(before, snapshot(s, goal)) {
				t.Fatalf("results share memory: %v", c.s)
			}
		}
		o, _ := simplex.Least(s, goal)
		x, y, _ := simplex.Solution(s)
		numbers(s, goal, func(d []int) {
			for i := range d {
				d[i] = -99
			}
		})
		if !equalOptima(o, want) || !equalAll(x, wantX) || !equalAll(y, wantY) {
			t.Fatalf("a result has memory of an argument: %v", c.s)
		}
	}
}

func TestPartsThatShareTheirDigits(t *testing.T) {
	// Arguments may share memory with each other; results may not.
	d := []int{1}
	one := api.Frac{P: api.Big{Sign: 1, Digits: d}, Q: api.Big{Sign: 1, Digits: d}}
	l := []api.Term{{Var: 0, Coef: one}, {Var: 1, Coef: one}}
	for kind := range api.RoKinds {
		w := api.Row{Terms: l, Kind: kind, Value: one}
		o, e := simplex.Least(api.System{N: 2, Rows: []api.Row{w, w}}, l)
		x, y, ok := simplex.Solution(api.System{N: 2, Rows: []api.Row{w, w}})
		if e != api.OK || !ok || len(o.X) != 2 || !alone(o, x, y) || d[0] != 1 {
			t.Errorf("a result for rows of the kind %d shares memory", kind)
		}
	}
}

func TestCallsSideBySide(t *testing.T) {
	shared := calls()
	var group sync.WaitGroup
	for range 4 {
		group.Go(func() {
			for _, c := range shared {
				o, e := simplex.Least(c.s, c.goal)
				again, f := simplex.Least(spareSystem(c.s), spareTerms(c.goal))
				x, _, _ := simplex.Solution(c.s)
				z, _, _ := simplex.Solution(spareSystem(c.s))
				if !equalOptima(o, again) || e != f || !equalAll(x, z) || e == api.OK && !dual.Check(c.s, c.goal, o) {
					t.Errorf("the results of %s depend on other calls", strings.TrimSpace(showSystem(c.s, c.goal)))
				}
			}
		})
	}
	group.Wait()
}
