package span_test

import (
	"math"
	gobig "math/big"
	"math/rand"
	"slices"
	"strconv"
	"strings"
	"testing"

	"kerbside/api"
	"kerbside/dual"
	"kerbside/linear"
	"kerbside/span"
)

// The chapter's examples.

func TestExamples(t *testing.T) {
	s := system(3, "0:1 1:1 <= 4\n 0:1 >= 1")
	rangeIs(t, s, terms("1:1"), "0..3")
	rangeIs(t, s, terms("0:1 1:-1"), "-2..4")
	rangeIs(t, s, terms("2:1"), "0..")
	impliedIs(t, s, row("1:1 <= 3"), true)
	impliedIs(t, s, row("1:1 <= 2"), false)
	certainIs(t, s, terms("0:1"), "", false)
	certainIs(t, with(s, row("0:1 == 2")), terms("0:3"), "6", true)
	rangeIs(t, with(s, row("0:1 >= 5")), terms("1:1"), "none")
}

// P11.1 and P11.5: ranges of each sort.

func TestNoRowsNoVariablesNoTerms(t *testing.T) {
	for _, s := range []api.System{{}, {Rows: []api.Row{}}} {
		for _, goal := range [][]api.Term{nil, {}} {
			rangeIs(t, s, goal, "0..0")
		}
	}
	for n := 1; n <= 4; n++ {
		s := system(n, "")
		rangeIs(t, s, nil, "0..0")
		rangeIs(t, s, whole(3, 1, 4, 1)[:n], "0..")
		rangeIs(t, s, whole(-3, -1, -4, -1)[:n], "..0")
		rangeIs(t, s, whole(3, 1, 4, -1)[n-1:n], []string{"0..", "0..", "0..", "..0"}[n-1])
		rangeIs(t, s, whole(1, -1, 1, -1)[:n], []string{"0..", "..", "..", ".."}[n-1])
	}
	for _, c := range []struct{ rows, want string }{
		{">= 0", "0..0"}, {"<= 0", "0..0"}, {"== 0", "0..0"}, {">= -1", "0..0"}, {"<= 1/7", "0..0"}, {">= 1", "none"}, {"<= -1/7", "none"}, {"== 1", "none"}, {"== -1", "none"}, {">= -1\n <= 1\n == 0", "0..0"}, {">= -1\n <= 1\n == 0\n >= " + tiny, "none"},
	} {
		for n := range 3 {
			rangeIs(t, system(n, c.rows), nil, c.want)
		}
		free := map[string]string{"0..0": "..", "none": "none"}
		rangeIs(t, system(2, c.rows), terms("0:1 1:-1"), free[c.want])
	}
}

func TestRanges(t *testing.T) {
	for _, c := range []struct{ rows, goal, want string }{
		// Without a least value, without a greatest one, without both, with both.
		{"0:1 1:1 <= 4\n 0:1 >= 1", "2:1", "0.."}, {"0:1 1:1 <= 4\n 0:1 >= 1", "2:-1/7", "..0"}, {"0:1 1:1 <= 4\n 0:1 >= 1", "0:1 2:-1", "..4"}, {"0:1 1:1 <= 4\n 0:1 >= 1", "0:1 2:1", "1.."}, {"0:1 1:1 <= 4\n 0:1 >= 1", "0:2 1:3", "2..11"}, {"0:1 >= 1", "0:1 1:-1", ".."}, {"0:1 1:-1 >= 1", "0:1 1:-2", ".."}, {"0:1 1:-1 >= 1", "0:1 1:-1", "1.."}, {"0:1 1:-1 == 0", "0:1 1:1 2:-1", ".."}, {"0:1 1:-2 <= 3\n 2:1 >= 5", "0:-1 1:2 2:1/5", "-2.."}, {"0:1 1:-2 <= 3\n 2:1 >= 5", "0:1 1:-2 2:-1/5", "..2"}, {"0:1 1:-1 <= 1\n 0:-1 1:1 <= 1", "0:1 1:-1", "-1..1"}, {"0:1 1:-1 <= 1\n 0:-1 1:1 <= 1", "0:1 1:1", "0.."},
		// Bounds that are 0, on either side.
		{"0:1 <= 1", "0:1", "0..1"}, {"0:1 <= 1", "0:-1", "-1..0"}, {"0:1 1:-1 <= 0", "0:1 1:-1", "..0"}, {"0:1 1:-1 >= 0", "0:1 1:-1", "0.."}, {"0:1 1:-1 >= 0\n 0:1 1:1 <= 2", "0:-1 1:1", "-2..0"}, {"0:1 1:1 == 1\n 0:1 1:-1 >= 0", "0:1 1:-1", "0..1"},
		// One value: by one row, by several together, by signs, without terms, of one solution.
		{"0:1 1:1 == 5", "0:1 1:1", "5..5"}, {"0:1 1:1 == 5", "0:-3 1:-3", "-15..-15"}, {"0:1 1:1 == 5", "0:1", "0..5"}, {"0:1 1:1 <= 5\n 0:1 1:1 >= 5", "0:1/5 1:1/5", "1..1"}, {"0:1 1:1 == 5\n 1:1 2:1 == 7", "0:1 1:2 2:1", "12..12"}, {"0:1 1:1 == 5\n 1:1 2:1 == 7", "0:1 2:-1", "-2..-2"}, {"0:1 1:1 == 5\n 1:1 2:1 == 7", "0:1 1:1 2:1", "7..12"}, {"0:1 1:1 <= 4\n 0:1 >= 4", "0:1 1:7", "4..4"}, {"0:1 <= 0", "0:9", "0..0"}, {"0:1 1:1 2:1 <= 0", "0:9 1:-1 2:1/3", "0..0"}, {"0:1 1:1 == 5\n 1:1 2:1 == 7\n 0:1 2:1 == 4", "0:1 1:10 2:100", "341..341"}, {"0:1 >= 1", "", "0..0"}, {"0:1 1:-1 == 0", "0:2 1:-2", "0..0"}, {"0:1 1:1 >= 5\n 0:1 1:1 <= 5000000000000000000001/1000000000000000000000", "0:1 1:1", "5..5000000000000000000001/1000000000000000000000"},
		// No solution, by one row, by several, by signs.
		{">= 1", "0:1", "none"}, {"0:1 == -1", "0:1", "none"}, {"0:1 1:1 <= -1/9", "2:1", "none"}, {"0:1 >= 5\n 0:1 1:1 <= 4", "1:1", "none"}, {"0:1 1:1 == 5\n 1:1 2:1 == 7\n 0:1 1:2 2:1 >= 13", "", "none"}, {"0:1 1:-1 >= 1\n 0:-1 1:1 >= -1\n 0:1 1:-1 == 1", "0:1 1:-1", "1..1"}, {"0:1 1:-1 >= 1\n 0:-1 1:1 >= -1/2", "0:1 1:-1", "none"},
	} {
		s, goal := system(3, c.rows), terms(c.goal)
		if want := expected(s, goal); want != c.want {
			t.Errorf("the model says %s for %s, goal %s, want %s", want, showSystem(s), show(goal), c.want)
		}
		rangeIs(t, s, goal, c.want)
	}
}

// P11.1, P11.2, P11.4 and P11.5: what is not right.

// refused checks that all functions refuse a system, or a goal.
func refused(t *testing.T, s api.System, goal []api.Term) {
	t.Helper()
	if r, e := span.Of(s, goal); e != api.ErrArg || !equalRanges(r, api.Range{}) {
		t.Errorf("Of %s, goal %v, is %s; %s, error %d", showSystem(s), goal, showOptimum(r.Least), showOptimum(r.Most), e)
	}
	if f, is := span.Certain(s, goal); is || !equal(f, api.Frac{}) {
		t.Errorf("Certain of %s, goal %v, is %s, %t", showSystem(s), goal, showFrac(f), is)
	}
	for kind := range api.RoKinds {
		refusedRow(t, s, api.Row{Terms: goal, Kind: kind, Value: raw("0")})
	}
	for _, o := range optima(s) {
		if span.Check(s, goal, api.Range{Least: o, Most: o}) {
			t.Errorf("Check of %s, goal %v, accepts %s", showSystem(s), goal, showOptimum(o))
		}
	}
}

func refusedRow(t *testing.T, s api.System, w api.Row) {
	t.Helper()
	if is, e := span.Implied(s, w); is || e != api.ErrArg {
		t.Errorf("Implied of %s, row %v, is %t, error %d", showSystem(s), w, is, e)
	}
}

// optima returns optima that could be those of a system: with points, multipliers and rays of its size, if it is small.
func optima(s api.System) []api.Optimum {
	n, rows := max(0, min(3, s.N)), min(9, len(s.Rows))
	list := func(s string, n int) []api.Frac { return slices.Repeat(point(s), n) }
	x, y := list("0", n), list("0", rows)
	ray := append(list("1", min(1, n)), list("0", max(0, n-1))...)
	return []api.Optimum{{}, {Value: raw("0")}, {Value: raw("0"), X: x, Y: y}, {Value: raw("0"), X: list("1", n), Y: y}, {Kind: api.OpNone, Y: y}, {Kind: api.OpNone, Y: list("1", rows)}, {Kind: api.OpFree, X: x, Ray: ray}, {Kind: api.OpKinds, Value: raw("0"), X: x, Y: y}, {Kind: -1, Value: raw("0"), X: x, Y: y}}
}

func TestSystemsThatAreNotRight(t *testing.T) {
	for _, n := range []int{-1, math.MinInt, api.MaxVars + 1, 1 << 32, math.MaxInt} {
		for _, rows := range []string{"", ">= 1", "0:1 >= 1"} {
			refused(t, system(n, rows), nil)
			refused(t, system(n, rows), terms("0:1"))
		}
	}
	for _, w := range wrongRows() {
		for i := range 3 {
			s := system(3, "0:1 1:1 >= 1\n 0:1 == 5")
			s.Rows = slices.Insert(s.Rows, i, w)
			refused(t, s, nil)
			refused(t, s, terms("0:1"))
			refused(t, with(s, row(">= 1")), terms("0:1")) // A system without a solution all the same.
		}
	}
}

func TestGoalsAndRowsThatAreNotRight(t *testing.T) {
	for _, rows := range []string{"", "0:1 1:1 >= 1", "0:1 1:-1 == 0", "0:1 <= 0", ">= 1", "0:1 >= 2\n 0:1 <= 1"} {
		s := system(3, rows)
		for _, goal := range wrongTerms() {
			refused(t, s, goal)
		}
		for _, w := range wrongRows() {
			refusedRow(t, s, w)
			refusedRow(t, system(3, ">= 1"), w)
		}
		refused(t, api.System{}, terms("0:1"))
		refused(t, system(0, ">= 1"), terms("0:1"))
		// The same with what is right.
		agrees(t, s, nil)
		agrees(t, s, terms("0:1 1:-1"))
	}
}

// P11.2

// opposite returns the opposite of right terms.
func opposite(l []api.Term) []api.Term {
	var out []api.Term
	for _, u := range l {
		out = append(out, api.Term{Var: u.Var, Coef: of(new(gobig.Rat).Neg(ratOf(u.Coef)))})
	}
	return out
}

// checkIs compares Check with its definition, which it returns.
func checkIs(t *testing.T, s api.System, goal []api.Term, r api.Range) bool {
	t.Helper()
	want := dual.Check(s, goal, r.Least) && dual.Check(s, opposite(goal), r.Most) && r.Least.Kind != api.OpNone && r.Most.Kind != api.OpNone
	if span.Check(s, goal, r) != want {
		t.Errorf("Check of %s, goal %s, with %s; %s is %t", showSystem(s), show(goal), showOptimum(r.Least), showOptimum(r.Most), !want)
	}
	return want
}

func TestCheckOfGivenRanges(t *testing.T) {
	s := system(3, "0:1 1:1 <= 4\n 0:1 >= 1")
	found := func(value, x, y string) api.Optimum {
		return api.Optimum{Value: raw(value), X: point(x), Y: point(y)}
	}
	free := func(x, ray string) api.Optimum {
		return api.Optimum{Kind: api.OpFree, X: point(x), Ray: point(ray)}
	}
	least, most := found("-2", "1 3 0", "-1 2"), found("-4", "4 0 7", "-1 0")
	for i, c := range []struct {
		goal        string
		least, most api.Optimum
		want        bool
	}{
		{"0:1 1:-1", least, most, true}, {"0:1 1:-1", most, least, false}, {"0:1 1:-1", least, least, false}, {"0:1 1:-1", most, most, false}, {"0:-1 1:1", most, least, true}, {"0:-1 1:1", least, most, false}, {"0:1", least, most, false}, {"", least, most, false}, {"0:1 1:-1 2:1", least, most, false}, {"0:2 1:-2", least, most, false},
		{"0:1 1:-1", least, api.Optimum{}, false}, {"0:1 1:-1", api.Optimum{}, most, false}, {"0:1 1:-1", found("-1", "1 3 0", "-1 2"), most, false}, {"0:1 1:-1", found("-2", "1 2 0", "-1 2"), most, false}, {"0:1 1:-1", least, found("-4", "4 0 7", "-1 1"), false}, {"0:1 1:-1", least, found("4", "4 0 7", "-1 0"), false}, {"0:1 1:-1", least, found("4", "4 0 7", "1 0"), false}, {"0:1 1:-1", found("-2", "1 3", "-1 2"), most, false}, {"0:1 1:-1", least, found("-4", "4 0 7", "-1 0 0"), false},
		{"2:1", found("0", "1 1 0", "0 0"), free("1 1 1", "0 0 2"), true}, {"2:1", free("1 1 1", "0 0 2"), found("0", "1 1 0", "0 0"), false}, {"2:-1", free("1 1 1", "0 0 2"), found("0", "1 1 0", "0 0"), true}, {"2:1", found("0", "1 1 0", "0 0"), free("0 1 1", "0 0 2"), false}, {"2:1", found("0", "1 1 0", "0 0"), free("1 1 1", "1 0 2"), false}, {"", found("0", "1 1 1", "0 0"), found("0", "2 1 1", "0 0"), true},
	} {
		r := api.Range{Least: c.least, Most: c.most}
		if checkIs(t, s, terms(c.goal), r) != c.want {
			t.Errorf("%d: Check of %s with %s; %s is %t", i, c.goal, showOptimum(c.least), showOptimum(c.most), !c.want)
		}
	}
	if span.Check(with(s, row("1:1 <= 2")), terms("0:1 1:-1"), api.Range{Least: least, Most: most}) {
		t.Error("Check accepts the range of another system")
	}
	// What refutes a system is no range of a goal over it.
	none := api.Optimum{Kind: api.OpNone, Y: point("-1 1")}
	refuted := system(3, "0:1 1:1 <= 4\n 0:1 >= 5")
	for _, goal := range []string{"", "0:1", "2:-1"} {
		if !dual.Check(refuted, terms(goal), none) || checkIs(t, refuted, terms(goal), api.Range{Least: none, Most: none}) {
			t.Errorf("Check accepts a refutation, goal %s", goal)
		}
		checkIs(t, refuted, terms(goal), api.Range{Least: least, Most: none})
		checkIs(t, s, terms(goal), api.Range{Least: none, Most: none})
	}
}

func TestCheckOfAllPairsOfOptima(t *testing.T) {
	// The optima of all goals, and what is like them, in pairs, for each goal.
	accepted, refused := 0, 0
	for _, rows := range []string{"0:1 1:1 <= 4\n 0:1 >= 1", "0:1 1:-1 == 1/3\n 0:1 1:1 >= 0", "0:1 1:1 == 2\n 2:1 <= 0", "0:1 >= 2\n 0:1 1:1 <= 1"} {
		s := system(3, rows)
		var all []api.Optimum
		goals := lists(3, -1, 1)
		for _, l := range goals[:14] {
			r, _ := span.Of(s, whole(l...))
			all = append(all, r.Least, r.Most)
		}
		all = append(all, optima(s)...)
		all = append(all, api.Optimum{Kind: api.OpNone, Y: point("1 -1")}, api.Optimum{Kind: api.OpNone, Y: point("1 0")})
		for _, l := range goals {
			for _, least := range all {
				for _, most := range all {
					if checkIs(t, s, whole(l...), api.Range{Least: least, Most: most}) {
						accepted++
					} else {
						refused++
					}
				}
			}
		}
	}
	if accepted < 81 || refused < 10000 {
		t.Errorf("%d pairs are accepted, %d are refused", accepted, refused)
	}
}

func TestCheckOfRangesThatWereChanged(t *testing.T) {
	r := rand.New(rand.NewSource(4))
	accepted, refused := 0, 0
	for i := range 400 {
		s, goal := someSystem(r, 1+i%2, 1+r.Intn(4), r.Intn(5), 2+i%40)
		for j := range 12 {
			// Of returns memory of its own each time, so that it can be changed.
			g, _ := span.Of(s, goal)
			o := &g.Least
			if j%2 == 1 {
				o = &g.Most
			}
			change(r, o, j/2)
			if checkIs(t, s, goal, g) {
				accepted++
			} else {
				refused++
			}
		}
	}
	if accepted < 10 || refused < 3000 {
		t.Errorf("%d ranges are accepted, %d are refused", accepted, refused)
	}
}

// change changes something of an optimum.
func change(r *rand.Rand, o *api.Optimum, what int) {
	lists := []*[]api.Frac{&o.X, &o.Y, &o.Ray}
	l := lists[r.Intn(3)]
	for len(*l) == 0 {
		l = lists[r.Intn(3)]
		if len(o.X)+len(o.Y)+len(o.Ray) == 0 {
			what = 0
			break
		}
	}
	switch what {
	case 0:
		o.Kind = (o.Kind + 1 + r.Intn(2)) % api.OpKinds
	case 1:
		o.Value = of(some(r, 9))
	case 2:
		(*l)[r.Intn(len(*l))] = of(some(r, 9))
	case 3:
		*l = (*l)[1:]
	case 4:
		*l = append(*l, raw("0"))
	case 5:
		(*l)[r.Intn(len(*l))] = wrongs()[r.Intn(len(wrongs()))]
	}
}

// P11.3

func TestBoundsOfAnyRange(t *testing.T) {
	values := append(wrongs(), point("0 1 -1 3 -7/2 340282366920938463463374607431768211457/123456789012345678901234567891 -"+tiny)...)
	kinds := []int{api.OpFound, api.OpNone, api.OpFree, api.OpKinds, -1, math.MinInt, math.MaxInt, 1 << 32}
	junk := append(point("7 2/4"), api.Frac{})
	for i, least := range values {
		for k, most := range values {
			// The opposite of a value; a zero fraction, if it is not right.
			up := api.Frac{}
			if k >= len(wrongs()) {
				up = opposite([]api.Term{{Coef: most}})[0].Coef
			}
			for _, low := range kinds {
				for _, high := range kinds {
					r := api.Range{Least: api.Optimum{Kind: low, Value: least, X: junk}, Most: api.Optimum{Kind: high, Value: most, Y: junk, Ray: junk}}
					var want api.Bounds
					if low == api.OpFound {
						want.Low, want.Least = true, least
					}
					if high == api.OpFound {
						want.High, want.Most = true, up
					}
					if b := span.Bounds(r); !equalBounds(b, want) {
						t.Fatalf("%d, %d: Bounds of the kinds %d and %d, values %v and %v, are %v, want %v", i, k, low, high, least, most, b, want)
					}
				}
			}
		}
	}
	if b := span.Bounds(api.Range{}); !equalBounds(b, api.Bounds{Low: true, High: true}) {
		t.Errorf("the bounds of the zero range are %v", b)
	}
}

// P11.4

func TestImplied(t *testing.T) {
	for _, c := range []struct{ rows, kept, not string }{
		{"0:1 1:1 <= 4\n 0:1 >= 1\n 2:1 3:1 == 5", "1:1 <= 3; 1:1 <= 4; 1:1 >= 0; 1:1 >= -1; 0:1 <= 4; 0:1 >= 1; 0:1 >= 1/2; 0:-1 <= -1; 0:-1 >= -4; 0:2 1:2 <= 8; 0:1 1:1 >= 1; 0:1 1:-1 >= -2; 0:1 1:-1 <= 4; 2:1 3:1 == 5; 2:1 3:1 >= 5; 2:1 3:1 <= 5; 2:-3 3:-3 == -15; 2:1 <= 5; 2:1 3:2 <= 10; 4:1 >= 0; 4:1 >= -1; 4:-1 <= 0; == 0; >= 0; <= 0; >= -1; <= 1", "1:1 <= 2; 1:1 <= 29/10; 1:1 >= " + tiny + "; 1:1 == 3; 1:1 == 0; 0:1 <= 3; 0:1 >= 10/9; 0:1 == 1; 0:1 == 4; 0:-1 <= -2; 0:-1 >= -3; 2:1 3:1 == 6; 2:1 3:1 == 4; 2:1 3:1 >= 6; 2:1 3:1 <= 4; 2:1 == 5; 2:1 3:2 <= 9; 4:1 <= 1000; 4:1 == 0; 4:1 >= 1; 4:-1 >= -1000; 0:1 4:1 <= 4; == 1; >= 1; <= -1; == -1; >= " + tiny + "; <= -" + tiny},
		{"0:1 == 0\n 1:1 2:1 <= 0", "0:1 == 0; 1:1 == 0; 0:5 1:-7 2:1/3 == 0; 0:1 1:1 2:1 <= 0; 0:1 1:1 2:1 >= 0", "0:1 == " + tiny + "; 3:1 == 0; 0:1 1:-1 >= " + tiny + "; 0:1 1:-1 <= -" + tiny},
		{"", "0:1 >= 0; 0:1 1:2 2:3 >= 0; 0:-1 <= 0; 0:-1 <= 7; 0:1 >= -7; == 0; >= -1; <= 1", "0:1 == 0; 0:1 <= 0; 0:1 1:-1 >= 0; 0:1 1:-1 <= 0; 0:1 1:-1 == 0; 0:-1 >= 0; >= 1; <= -1; == 1"},
		{"0:1 >= 5\n 0:1 <= 4", "0:1 >= 99; 0:1 <= -99; 0:1 == 5; 1:1 == -7; == 99; >= 1; <= -1; == 0", ""},
		{">= 1", "0:1 >= 99; 0:1 == -7; == 99; >= 1", ""},
	} {
		s := system(5, c.rows)
		for want, rows := range map[bool]string{true: c.kept, false: c.not} {
			for _, text := range strings.Split(rows, ";") {
				if text != "" {
					impliedIs(t, s, row(text), want)
				}
			}
		}
	}
}

func TestImpliedByManyRows(t *testing.T) {
	// x0 is at least 1, and each other variable at least 1 more than twice the one before: so the last one is at least 2^n - 1, for which each row is needed.
	for n := 1; n <= 60; n++ {
		s := system(n, "0:1 >= 1")
		for v := 1; v < n; v++ {
			s.Rows = append(s.Rows, row(strconv.Itoa(v-1)+":-2 "+strconv.Itoa(v)+":1 >= 1"))
		}
		last := new(gobig.Int).Lsh(gobig.NewInt(1), uint(n))
		last.Sub(last, gobig.NewInt(1))
		goal := terms(strconv.Itoa(n-1) + ":1")
		rangeIs(t, s, goal, last.String()+"..")
		w := api.Row{Terms: goal, Kind: api.RoLeast, Value: raw(last.String())}
		missing := s.Rows[n/2]
		s.Rows = slices.Delete(s.Rows, n/2, n/2+1)
		impliedIs(t, s, w, false)
		impliedIs(t, with(s, missing), w, true)
	}
}

// Limits.

// fullSystem returns a system of as many variables and rows as there can be: the variable v is from v + 3 to 2 v + 5.
func fullSystem() (api.System, []api.Term) {
	s, goal := api.System{N: api.MaxVars}, make([]api.Term, api.MaxVars)
	for v := range goal {
		goal[v] = api.Term{Var: v, Coef: raw("1")}
		for _, end := range []string{":2 >= " + strconv.Itoa(2*v+6), ":1 >= 2", ":1/3 <= " + strconv.Itoa(v*v+10), ":1 <= " + strconv.Itoa(2*v+5)} {
			s.Rows = append(s.Rows, row(strconv.Itoa(v)+end))
		}
	}
	return s, goal
}

func TestGreatestSystems(t *testing.T) {
	s, goal := fullSystem()
	n := api.MaxVars
	least, most := strconv.Itoa(n*(n-1)/2+3*n), strconv.Itoa(n*(n-1)+5*n)
	g, e := span.Of(s, goal)
	if e != api.OK || showBounds(span.Bounds(g)) != least+".."+most || !span.Check(s, goal, g) {
		t.Errorf("the range of %d variables is %s, want %s..%s", n, showBounds(span.Bounds(g)), least, most)
	}
	// There is no room for a further row.
	impliedIs(t, s, api.Row{Terms: goal, Kind: api.RoLeast, Value: raw(least)}, true)
	impliedIs(t, s, api.Row{Terms: goal, Kind: api.RoMost, Value: raw(least)}, false)
	certainIs(t, s, goal[:1], "", false)
	s.Rows[3].Value = raw("3")
	certainIs(t, s, goal[:1], "3", true)
	s.Rows[3].Value = raw("29/10")
	if g, e := span.Of(s, goal); e != api.ErrUnsat || !equalRanges(g, api.Range{}) {
		t.Errorf("the range of %d variables, without a solution, is %v, error %d", n, g, e)
	}
	impliedIs(t, s, row("0:1 == 77"), true)
	refused(t, with(s, s.Rows[0]), goal)
	refused(t, api.System{N: n + 1}, goal)
	refused(t, api.System{N: n}, append(slices.Clone(goal), terms(strconv.Itoa(n)+":1")...))
}

func TestFractionsOfManyDigits(t *testing.T) {
	// A goal that is certain because it is a sum of rows, with a value of thousands of digits, and one that is so only almost.
	r := rand.New(rand.NewSource(5))
	for _, c := range []struct{ n, bits int }{{1, 5000}, {2, 1000}, {3, 500}, {5, 120}} {
		s, _ := someSystem(r, 1, c.n, c.n+1, c.bits)
		x := slices.Repeat(point("0"), c.n)
		for v := range x {
			x[v] = of(new(gobig.Rat).SetFrac(new(gobig.Int).Rand(r, new(gobig.Int).Lsh(gobig.NewInt(1), uint(c.bits))), new(gobig.Int).Lsh(gobig.NewInt(3), uint(c.bits))))
		}
		var goal []api.Term
		for i := range s.Rows {
			s.Rows[i].Kind = api.RoEqual
			s.Rows[i].Value, _ = linear.Value(s.Rows[i].Terms, x)
			goal = linear.Plus(goal, linear.Times(s.Rows[i].Terms, of(some(r, c.bits))))
		}
		value, _ := linear.Value(goal, x)
		text := showFrac(value)
		rangeIs(t, s, goal, text+".."+text)
		last := &s.Rows[len(s.Rows)-1]
		last.Kind = api.RoMost
		rangeIs(t, s, goal, expected(s, goal))
		slack := new(gobig.Rat).SetFrac(gobig.NewInt(1), new(gobig.Int).Lsh(gobig.NewInt(1), 5000))
		s.Rows = append(s.Rows, api.Row{Terms: last.Terms, Kind: api.RoLeast, Value: of(slack.Sub(ratOf(last.Value), slack))})
		rangeIs(t, s, goal, expected(s, goal))
		s.Rows = append(s.Rows, api.Row{Terms: last.Terms, Kind: api.RoMost, Value: of(slack.Sub(slack, gobig.NewRat(1, 1)))})
		rangeIs(t, s, goal, "none")
	}
}
