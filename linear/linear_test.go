package linear_test

import (
	"math"
	gobig "math/big"
	"slices"
	"strconv"
	"testing"

	"kerbside/api"
	"kerbside/linear"
)

// vars are numbers that can be a Var or an n, in and out of the ranges.
func vars() []int {
	return []int{math.MinInt, -math.MaxInt, -1 << 32, -2, -1, 0, 1, 2, 3, 4, 5, api.MaxVars - 1, api.MaxVars, api.MaxVars + 1, 1 << 32, math.MaxInt - 1, math.MaxInt}
}

// The chapter's examples.

func TestExamples(t *testing.T) {
	l := terms("0:2 2:-1")
	if !linear.RightTerms(l, 3) || linear.RightTerms(l, 2) {
		t.Error("RightTerms for 3 or for 2 variables is wrong")
	}
	valueIs(t, l, point("1 0 1/2"), "3/2")
	noValue(t, l, point("1 0"))
	s := system(3, row("0:2 2:-1", api.RoLeast, "1"), row("1:1", api.RoEqual, "3"))
	for x, want := range map[string]bool{"1 3 1": true, "1 3 2": false, "0 3 -1": false} {
		if linear.Holds(s, point(x)) != want {
			t.Errorf("Holds at %s is %t", x, !want)
		}
	}
	termsAre(t, "Plus", linear.Plus(l, terms("2:1 5:1")), terms("0:2 5:1"))
	termsAre(t, "Times 0", linear.Times(l, raw("0")), nil)
}

// P8.1

func TestRightTerms(t *testing.T) {
	for _, c := range []struct {
		l    string
		n    int
		want bool
	}{
		{"", 0, true}, {"", 1, true}, {"", api.MaxVars, true}, {"", api.MaxVars + 1, true}, {"", math.MaxInt, true}, {"", -1, false}, {"", -api.MaxVars, false}, {"", math.MinInt, false},
		{"0:1", 1, true}, {"0:1", 0, false}, {"0:1", -1, false}, {"0:1", math.MinInt, false}, {"0:1", math.MaxInt, true}, {"1:1", 1, false}, {"1:1", 2, true}, {"2:-1", 3, true}, {"3:-1", 3, false}, {"4:1", 3, false},
		{"-1:1", 3, false}, {"-1:1", 0, false}, {"-1:1", -1, false}, {"-2:1", -1, false}, {"-1:1 0:1", 3, false}, {"-3:1 -2:1 0:1", 3, false}, {"-9223372036854775808:1", 3, false}, {"9223372036854775807:1", 3, false},
		{"0:1 1:1 2:1", 3, true}, {"0:1 1:1 2:1", 2, false}, {"0:1 2:1", 3, true}, {"1:-1/2 2:-7/3", 3, true},
		{"0:1 0:1", 3, false}, {"1:1 1:1", 3, false}, {"1:1 1:-1", 3, false}, {"2:1 2:2", 3, false}, {"0:1 2:1 2:1", 3, false}, {"0:1 0:1 2:1", 3, false},
		{"1:1 0:1", 3, false}, {"2:1 1:1", 3, false}, {"2:1 0:1", 3, false}, {"0:1 2:1 1:1", 3, false}, {"1:1 0:1 2:1", 3, false}, {"2:1 1:1 0:1", 3, false},
		{"1:0", 3, false}, {"0:0", 1, false}, {"0:1 1:0", 3, false}, {"0:0 1:1", 3, false}, {"0:1 1:0 2:1", 3, false},
		{"1:2/4", 3, false}, {"1:1/0", 3, false}, {"1:1/-1", 3, false}, {"1:-1/-1", 3, false}, {"1:0/2", 3, false}, {"1:0/0", 3, false}, {"0:1 1:2/2", 3, false}, {"0:3/6 1:1", 3, false},
		{"1499:1", api.MaxVars, true}, {"1500:1", api.MaxVars, false}, {"1499:1", api.MaxVars - 1, false}, {"1498:1 1499:1", api.MaxVars, true}, {"0:1 1500:1", api.MaxVars, false},
		{"1500:1", api.MaxVars + 1, true}, {"5000:1", 5001, true}, {"5000:1", 5000, false}, {"0:1 9223372036854775806:1", math.MaxInt, true}, {"9223372036854775807:1", math.MaxInt, false}, {"4294967296:1", 3, false}, {"4294967297:1", math.MaxInt, true},
		{"0:123456789012345678901234567891/7 1:-7/123456789012345678901234567891", 2, true}, {"0:123456789012345678901234567890/6", 2, false},
	} {
		if got := linear.RightTerms(terms(c.l), c.n); got != c.want {
			t.Errorf("RightTerms(%s) for %d variables is %t", c.l, c.n, got)
		}
	}
	if !linear.RightTerms([]api.Term{}, 0) || linear.RightTerms([]api.Term{}, -1) || linear.RightTerms([]api.Term{{}}, 1) {
		t.Error("RightTerms of an empty list, or of a zero term, is wrong")
	}
}

func TestRightTermsLooksAtEachTerm(t *testing.T) {
	for n := 1; n < 8; n++ {
		for i := range n {
			for _, f := range append(wrongs(), raw("0")) {
				l := ascending(n)
				l[i].Coef = f
				if linear.RightTerms(l, 100) {
					t.Errorf("the coefficient %v of the term %d of %d is not right", f, i, n)
				}
			}
			for _, f := range rights() {
				l := ascending(n)
				l[i].Coef = f
				if want := f.P.Sign != 0; linear.RightTerms(l, 100) != want {
					t.Errorf("RightTerms with the coefficient %v is %t", f, !want)
				}
			}
			for _, v := range vars() {
				l := ascending(n)
				l[i].Var = v
				above := i == 0 && v >= 0 || i > 0 && v > l[i-1].Var
				below := i == n-1 && v < 100 || i < n-1 && v < l[i+1].Var
				if linear.RightTerms(l, 100) != (above && below) {
					t.Errorf("RightTerms(%v) is %t", show(l), !(above && below))
				}
			}
		}
	}
}

func TestRightTermsForEachNumberOfVariables(t *testing.T) {
	for _, n := range vars() {
		for _, v := range vars() {
			l := []api.Term{{Var: v, Coef: raw("-3/2")}}
			if want := 0 <= v && v < n; linear.RightTerms(l, n) != want {
				t.Errorf("RightTerms of the variable %d for %d variables is %t", v, n, !want)
			}
		}
		if linear.RightTerms(nil, n) != (n >= 0) {
			t.Errorf("RightTerms of no terms for %d variables is %t", n, n < 0)
		}
	}
}

func TestRightTermsOfAllVariables(t *testing.T) {
	l := ascending(3 * api.MaxVars)
	last := l[len(l)-1].Var
	if !linear.RightTerms(l, last+1) || linear.RightTerms(l, last) {
		t.Error("RightTerms of many terms is wrong")
	}
	l[len(l)-1].Var--
	l[len(l)-2].Var = l[len(l)-1].Var
	if linear.RightTerms(l, last+1) {
		t.Error("the last two of many terms have the same variable")
	}
}

func TestRight(t *testing.T) {
	ok := row("0:1 2:-1/3", api.RoMost, "-1/2")
	for i, c := range []struct {
		s    api.System
		want bool
	}{
		{api.System{}, true}, {system(1), true}, {system(api.MaxVars), true}, {system(api.MaxVars + 1), false}, {system(-1), false}, {system(math.MinInt), false}, {system(math.MaxInt), false}, {system(1 << 32), false},
		{system(0, row("", api.RoEqual, "0")), true}, {system(0, row("", api.RoLeast, "1"), row("", api.RoMost, "-1")), true}, {system(0, row("0:1", api.RoLeast, "1")), false}, {system(-1, row("", api.RoEqual, "0")), false},
		{system(0, api.Row{}), false}, {system(3, api.Row{Terms: terms("0:1")}), false},
		{system(3, ok), true}, {system(2, ok), false}, {system(4, ok), true}, {system(3, ok, ok), true}, {system(api.MaxVars+1, ok), false}, {system(-1, ok), false},
		{system(api.MaxVars, row("1499:1", api.RoLeast, "1")), true}, {system(api.MaxVars, row("1500:1", api.RoLeast, "1")), false}, {system(api.MaxVars-1, row("1499:1", api.RoLeast, "1")), false}, {system(api.MaxVars+1, row("1500:1", api.RoLeast, "1")), false},
		{system(3, row("2:1 0:1", api.RoLeast, "1")), false}, {system(3, row("1:1 1:1", api.RoMost, "1")), false}, {system(3, row("-1:1", api.RoEqual, "1")), false}, {system(3, row("1:0", api.RoMost, "1")), false}, {system(3, row("1:2/4", api.RoMost, "1")), false},
		{system(3, row("1:1", api.RoMost, "2/4")), false}, {system(3, row("1:1", api.RoMost, "1/0")), false}, {system(3, row("1:1", api.RoMost, "1/-2")), false}, {system(3, row("1:1", api.RoMost, "0/2")), false}, {system(3, row("1:1", api.RoMost, "-1/2")), true}, {system(3, row("", api.RoMost, "2/2")), false},
		{api.System{N: 3, Rows: make([]api.Row, api.MaxRows)}, false}, {api.System{N: 3, Rows: []api.Row{}}, true},
	} {
		if got := linear.Right(c.s); got != c.want {
			t.Errorf("%d: Right(%v) is %t", i, c.s, got)
		}
	}
}

func TestRightKinds(t *testing.T) {
	for _, kind := range []int{math.MinInt, -1 << 32, -3, -2, -1, api.RoLeast, api.RoMost, api.RoEqual, api.RoKinds, 4, 5, 1 << 32, 1<<32 + 1, math.MaxInt} {
		want := kind == api.RoLeast || kind == api.RoMost || kind == api.RoEqual
		for _, l := range []string{"", "1:1"} {
			if linear.Right(system(3, row(l, kind, "1"))) != want {
				t.Errorf("Right with the kind %d is %t", kind, !want)
			}
			// A row that is not right does not hold, whatever its terms.
			if !want && (linear.Holds(system(3, row(l, kind, "0")), point("0 0 0")) || linear.Holds(system(3, row(l, kind, "1")), point("0 1 0"))) {
				t.Errorf("a row with the kind %d holds", kind)
			}
		}
	}
}

// harms are rows that are not right for 3 variables.
func harms() []api.Row {
	l := []api.Row{
		{}, row("0:1", -1, "0"), row("0:1", api.RoKinds, "0"), row("3:1", api.RoLeast, "0"), row("-1:1", api.RoLeast, "0"), row("0:1 3:1", api.RoMost, "0"), row("2:1 0:1", api.RoEqual, "0"), row("1:1 1:1", api.RoEqual, "0"), row("0:0", api.RoLeast, "0"), row("0:1 1:0", api.RoLeast, "0"),
	}
	for _, f := range wrongs() {
		l = append(l, api.Row{Kind: api.RoLeast, Value: f}, api.Row{Terms: terms("0:1"), Kind: api.RoMost, Value: f}, api.Row{Terms: []api.Term{{Var: 1, Coef: f}}, Kind: api.RoLeast, Value: raw("0")})
	}
	return l
}

func TestRightLooksAtEachRow(t *testing.T) {
	ok := row("0:1 2:-1", api.RoLeast, "0")
	for _, harm := range harms() {
		for n := 1; n < 5; n++ {
			for i := range n {
				s := system(3, slices.Repeat([]api.Row{ok}, n)...)
				s.Rows[i] = harm
				if linear.Right(s) || linear.Holds(s, point("0 0 0")) || linear.Holds(s, point("1 1 1")) {
					t.Errorf("the row %d of %d, %v, is not right", i, n, harm)
				}
			}
		}
	}
}

func TestRightWithManyRows(t *testing.T) {
	ok, x := row("0:1 1499:-1", api.RoLeast, "-1"), zeros(api.MaxVars)
	for n, want := range map[int]bool{api.MaxRows - 1: true, api.MaxRows: true, api.MaxRows + 1: false, 2 * api.MaxRows: false} {
		s := system(api.MaxVars, slices.Repeat([]api.Row{ok}, n)...)
		if linear.Right(s) != want || linear.Holds(s, x) != want {
			t.Errorf("Right, or Holds, with %d rows is not %t", n, want)
		}
		s.Rows[n-1] = row("0:1", api.RoKinds, "0")
		if linear.Right(s) || linear.Holds(s, x) {
			t.Errorf("the last row of %d is not right", n)
		}
		s.Rows[n-1] = row("0:1", api.RoLeast, "1")
		if linear.Right(s) != want || linear.Holds(s, x) {
			t.Errorf("Right, or Holds, with %d rows of which the last one does not hold, is wrong", n)
		}
	}
}

// P8.2

// valueIs checks the value of terms at x.
func valueIs(t *testing.T, l []api.Term, x []api.Frac, want string) {
	t.Helper()
	if got, is := linear.Value(l, x); !is || !equal(got, raw(want)) {
		t.Errorf("Value(%s) at %s is %s, %t, want %s", show(l), showAll(x), showFrac(got), is, want)
	}
}

// noValue checks that terms have no value at x.
func noValue(t *testing.T, l []api.Term, x []api.Frac) {
	t.Helper()
	if got, is := linear.Value(l, x); is || !equal(got, api.Frac{}) {
		t.Errorf("Value(%s) at %s is %s, %t, want a zero fraction, false", show(l), showAll(x), showFrac(got), is)
	}
}

func TestValue(t *testing.T) {
	for _, c := range []struct{ l, x, want string }{
		{"", "", "0"}, {"", "5", "0"}, {"", "1 2 3", "0"}, {"0:1", "0", "0"}, {"0:1", "7/3", "7/3"}, {"0:-2", "7/3", "-14/3"}, {"0:1", "-7/3", "-7/3"}, {"0:-3/7", "7/3", "-1"}, {"0:3", "1/3 9", "1"},
		{"0:2 2:-1", "1 0 3", "-1"}, {"0:2 2:-1", "1/3 9 1/2", "1/6"}, {"0:2 2:-1", "1 0 2", "0"}, {"0:2 2:-1", "-1 -7 -2", "0"}, {"0:2 2:-1", "1 5 2 8 9", "0"}, {"0:2 2:-1", "0 0 0", "0"},
		{"0:1 1:1 2:1 3:1 4:1", "1 2 3 4 5", "15"}, {"0:1 1:10 2:100 3:1000", "1 2 3 4", "4321"}, {"1:1/2 3:1/3 4:1/6", "9 1 9 1 1", "1"}, {"0:1/2 1:1/3 2:1/7", "1 1 1", "41/42"}, {"0:1/2 1:1/3 2:1/7", "2 3 7", "3"}, {"0:1/2 1:-1/3", "1/3 1/2", "0"},
		{"0:123456789012345678901234567891/7 1:-1", "7/123456789012345678901234567891 1", "0"}, {"0:123456789012345678901234567891/7 1:1", "7 1/10", "1234567890123456789012345678911/10"},
		{"0:1000000000000000000000000000000 1:1/1000000000000000000000000000000", "1 1", "1000000000000000000000000000000000000000000000000000000000001/1000000000000000000000000000000"}, {"0:9223372036854775807 1:1", "1 1", "9223372036854775808"}, {"0:9223372036854775807", "9223372036854775807", "85070591730234615847396907784232501249"},
	} {
		valueIs(t, terms(c.l), point(c.x), c.want)
	}
}

func TestNoValue(t *testing.T) {
	for _, c := range []struct{ l, x string }{
		{"0:1", ""}, {"0:2 2:-1", "1 0"}, {"0:2 2:-1", ""}, {"3:1", "1 1 1"}, {"-1:1", "1 1 1"}, {"2:1 0:1", "1 1 1"}, {"1:1 1:1", "1 1 1"}, {"1:0", "1 1 1"}, {"0:1 1:0", "1 1 1"}, {"0:2/4", "1 1 1"}, {"0:1/-1", "1"}, {"0:1/0", "1"}, {"0:1 1:1/0", "0 0"},
		{"", "2/4"}, {"", "1 1 0/2"}, {"0:1", "1/0"}, {"0:1", "2/2"}, {"0:1", "1 2/2"}, {"0:1", "1 1 1/0"}, {"1:1", "1/-1 1"}, {"0:1 2:1", "1 -1/-1 1"}, {"0:1", "0/0"}, {"0:1 1:1", "1 4/2"}, {"0:1 1:1", "4/2 1"},
	} {
		noValue(t, terms(c.l), point(c.x))
	}
	noValue(t, terms("0:1"), nil)
	noValue(t, nil, []api.Frac{{}})
}

func TestValueLooksAtEachElement(t *testing.T) {
	for n := 1; n < 6; n++ {
		for i := range n {
			for _, w := range wrongs() {
				x := slices.Repeat(point("1"), n)
				x[i] = w
				for _, l := range [][]api.Term{nil, terms("0:1"), {{Var: i, Coef: raw("1")}}, {{Var: n - 1, Coef: raw("-1")}}} {
					noValue(t, l, x)
				}
				if linear.Holds(system(n), x) || linear.Holds(system(n, row("", api.RoLeast, "0")), x) {
					t.Errorf("a system holds at %v, whose element %d is not right", x, i)
				}
			}
		}
	}
}

func TestValueAtManyVariables(t *testing.T) {
	// The number of variables is that of x alone, and can be greater than that of a system.
	for _, n := range []int{api.MaxVars - 1, api.MaxVars, api.MaxVars + 1, 3 * api.MaxVars} {
		x := slices.Repeat(point("1/2"), n)
		l := make([]api.Term, n)
		for i := range l {
			l[i] = api.Term{Var: i, Coef: raw("3")}
		}
		valueIs(t, l, x, new(gobig.Rat).SetFrac64(int64(3*n), 2).RatString())
		valueIs(t, l[n-1:], x, "3/2")
		noValue(t, l, x[1:])
		x[n-1] = raw("2/4")
		noValue(t, l[:1], x)
	}
}

func TestHolds(t *testing.T) {
	s := system(3, row("0:2 2:-1", api.RoLeast, "1"), row("1:1", api.RoEqual, "3"), row("0:1 1:1 2:1", api.RoMost, "7"))
	for _, c := range []struct {
		x    string
		want bool
	}{
		{"1 3 1", true}, {"1 3 2", false}, {"4 3 0", true}, {"5 3 0", false}, {"1/2 3 0", true}, {"499999/1000000 3 0", false}, {"5/3 3 7/3", true}, {"1 2 1", false}, {"1 4 1", false}, {"4000001/1000000 3 0", false}, {"1 3000001/1000000 1", false}, {"1 2999999/1000000 1", false},
		{"1 3", false}, {"1 3 1 0", false}, {"", false}, {"1", false}, {"0 3 -1", false}, {"4 3 -1", false}, {"-1 3 -3", false}, {"1 3 2/2", false}, {"2/2 3 1", false}, {"1 6/2 1", false}, {"1 3 0/2", false}, {"1 3 1/0", false},
	} {
		if got := linear.Holds(s, point(c.x)); got != c.want {
			t.Errorf("Holds at %s is %t", c.x, got)
		}
	}
}

func TestHoldsWithoutRows(t *testing.T) {
	for _, c := range []struct {
		n    int
		x    string
		want bool
	}{
		{0, "", true}, {0, "0", false}, {0, "1", false}, {1, "", false}, {1, "0", true}, {1, "7/3", true}, {1, "0 0", false}, {1, "-1", false}, {1, "-1/1000000", false}, {2, "0 -1", false}, {2, "-1 0", false}, {2, "1 1", true}, {2, "1", false}, {3, "1 -1/2 1", false},
		{1, "2/2", false}, {1, "0/2", false}, {2, "1 0/0", false}, {2, "1/0 1", false}, {1, "1/-1", false}, {-1, "", false}, {-1, "0", false}, {math.MinInt, "", false}, {math.MaxInt, "", false},
	} {
		if got := linear.Holds(system(c.n), point(c.x)); got != c.want {
			t.Errorf("a system of %d variables without rows holds at %q: %t", c.n, c.x, got)
		}
	}
	if !linear.Holds(api.System{}, nil) || !linear.Holds(system(0), []api.Frac{}) {
		t.Error("the system of no variables and no rows does not hold")
	}
	for n, want := range map[int]bool{api.MaxVars - 1: true, api.MaxVars: true, api.MaxVars + 1: false} {
		if linear.Holds(system(n), zeros(n)) != want || linear.Holds(system(n), zeros(n+1)) || linear.Holds(system(n), zeros(n-1)) {
			t.Errorf("Holds with %d variables is wrong", n)
		}
	}
}

func TestHoldsAtTheValue(t *testing.T) {
	// Rows that hold exactly at their Value, and just not.
	great := "1000000000000000000000000000000000000000"
	for _, c := range []struct {
		l, x, value string
		order       int // of what the terms are to the Value
	}{
		{"", "", "0", 0}, {"", "", "1", -1}, {"", "", "-1", 1}, {"", "5", "0", 0}, {"", "5", "5", -1}, {"", "", "1/" + great, -1}, {"", "", "-1/" + great, 1},
		{"0:1", "0", "0", 0}, {"0:-1", "0", "0", 0}, {"0:1", "3", "3", 0}, {"0:1", "3", "2", 1}, {"0:1", "3", "4", -1}, {"0:-1", "3", "-3", 0}, {"0:-1", "3", "-2", -1}, {"0:-1", "3", "-4", 1}, {"0:-1", "3", "3", -1}, {"0:1", "3", "-3", 1},
		{"0:1/3 1:1/6", "1 1", "1/2", 0}, {"0:1/3 1:1/6", "1 1", "500001/1000000", -1}, {"0:1/3 1:1/6", "1 1", "499999/1000000", 1}, {"0:1 1:-1", "2 2", "0", 0}, {"0:1 1:-1", "2 3", "0", -1}, {"0:1 1:-1", "3 2", "0", 1}, {"0:1 1:-1", "3 2", "1", 0},
		{"0:" + great, "1/" + great, "1", 0}, {"0:" + great, "1/" + great, "1000000000000000000000000000001/1000000000000000000000000000000", -1}, {"0:" + great, "1/" + great, "999999999999999999999999999999/1000000000000000000000000000000", 1}, {"0:" + great + " 1:1", "1 1", great, 1}, {"0:" + great + " 1:-1", "1 1", great, -1}, {"0:" + great + " 1:-1", "1 0", great, 0},
	} {
		x := point(c.x)
		for kind, want := range map[int]bool{api.RoLeast: c.order >= 0, api.RoMost: c.order <= 0, api.RoEqual: c.order == 0} {
			if linear.Holds(system(len(x), row(c.l, kind, c.value)), x) != want {
				t.Errorf("the row %s, kind %d, value %s, at %s: %t", c.l, kind, c.value, c.x, !want)
			}
		}
	}
}

func TestHoldsLooksAtEachRow(t *testing.T) {
	x := point("1 2")
	oks := []api.Row{row("0:1", api.RoLeast, "1"), row("1:1", api.RoMost, "2"), row("0:1 1:1", api.RoEqual, "3"), row("", api.RoLeast, "-1"), row("1:-1", api.RoMost, "0")}
	fails := []api.Row{row("0:1", api.RoLeast, "2"), row("1:1", api.RoMost, "1"), row("0:1 1:1", api.RoEqual, "4"), row("", api.RoLeast, "1"), row("", api.RoMost, "-1"), row("", api.RoEqual, "1"), row("1:-1", api.RoLeast, "0")}
	if !linear.Holds(system(2, oks...), x) {
		t.Fatal("rows that hold do not hold")
	}
	for i := range len(oks) + 1 {
		for _, fail := range fails {
			if linear.Holds(system(2, slices.Insert(slices.Clone(oks), i, fail)...), x) {
				t.Errorf("a system holds whose row %d, %v, does not", i, fail)
			}
		}
	}
	for i := range x {
		for _, f := range []string{"-1", "-1/1000000", "-1000000000000000000000000000000"} {
			below := slices.Clone(x)
			below[i] = raw(f)
			if linear.Holds(system(2), below) || linear.Holds(system(2, row("", api.RoEqual, "0")), below) {
				t.Errorf("a system holds at %s for the variable %d", f, i)
			}
		}
	}
}

// P8.3

// termsAre checks terms.
func termsAre(t *testing.T, what string, got, want []api.Term) {
	t.Helper()
	if !equalTerms(got, want) {
		t.Errorf("%s is %s, want %s", what, show(got), show(want))
	}
}

func TestPlus(t *testing.T) {
	for _, c := range []struct{ a, b, want string }{
		{"", "", ""}, {"0:1", "", "0:1"}, {"0:1 5:-1/2", "", "0:1 5:-1/2"}, {"0:1", "0:1", "0:2"}, {"0:1", "0:-1", ""}, {"0:1/2", "0:-1/3", "0:1/6"}, {"0:1", "1:1", "0:1 1:1"}, {"0:1 1:1", "2:1 3:1", "0:1 1:1 2:1 3:1"}, {"0:1 2:1", "1:1 3:1", "0:1 1:1 2:1 3:1"}, {"1:1", "0:1 2:1", "0:1 1:1 2:1"}, {"0:1 9:1", "3:1 4:1 5:1", "0:1 3:1 4:1 5:1 9:1"},
		{"0:2 2:-1", "2:1 5:1", "0:2 5:1"}, {"0:2 2:-1", "0:-2 2:1", ""}, {"0:2 2:-1", "0:-2", "2:-1"}, {"0:2 2:-1", "2:1", "0:2"}, {"0:2 2:-1", "1:4", "0:2 1:4 2:-1"}, {"0:2 1:3 2:-1", "0:-2 1:5 2:1", "1:8"}, {"0:2 1:3 2:-1", "0:1 1:-3 2:1/2", "0:3 2:-1/2"}, {"0:1 1:1 2:1", "0:1 1:1 2:1", "0:2 1:2 2:2"},
		{"1499:1", "1499:1", "1499:2"}, {"1499:1", "1499:-1", ""}, {"0:1", "1499:1", "0:1 1499:1"}, {"1498:1", "1499:1", "1498:1 1499:1"},
		{"0:123456789012345678901234567890", "0:1/123456789012345678901234567890", "0:15241578753238836750495351562536198787501905199875019052101/123456789012345678901234567890"}, {"0:123456789012345678901234567890 1:1", "0:-123456789012345678901234567890 1:1", "1:2"}, {"0:9223372036854775807", "0:1", "0:9223372036854775808"}, {"0:9223372036854775808", "0:-1", "0:9223372036854775807"}, {"0:1/9223372036854775807", "0:-1/9223372036854775808", "0:1/85070591730234615856620279821087277056"},
	} {
		for _, order := range [][2]string{{c.a, c.b}, {c.b, c.a}} {
			termsAre(t, "Plus of "+order[0]+" and "+order[1], linear.Plus(terms(order[0]), terms(order[1])), terms(c.want))
		}
	}
}

// wrongTerms are lists that are not right for MaxVars variables.
func wrongTerms() [][]api.Term {
	var l [][]api.Term
	for _, s := range []string{
		"-1:1", "-1:1 0:1", "1500:1", "0:1 1500:1", "1501:1", "5000:1", "9223372036854775807:1", "-9223372036854775808:1", "2:1 0:1", "1:1 1:1", "1:1 1:-1", "0:1 2:1 1:1", "0:0", "0:1 1:0", "0:0 1:1", "0:2/4", "0:1 1:2/4", "0:1/-2", "0:1/0", "0:0/2", "0:1 1:-3/-1 2:1",
	} {
		l = append(l, terms(s))
	}
	for _, f := range wrongs() {
		l = append(l, []api.Term{{Var: 0, Coef: f}}, append(terms("0:1 3:1"), api.Term{Var: 4, Coef: f}))
	}
	return l
}

func TestPlusAndTimesOfTermsThatAreNotRight(t *testing.T) {
	for _, w := range wrongTerms() {
		for _, a := range append([][]api.Term{nil, {}, terms("0:1"), terms("0:-1"), terms("0:2 2:-1"), terms("1:1 3:1 1499:1")}, wrongTerms()...) {
			if l := linear.Plus(a, w); len(l) != 0 {
				t.Errorf("Plus of %s and %s is %s, want no terms", show(a), show(w), show(l))
			}
			if l := linear.Plus(w, a); len(l) != 0 {
				t.Errorf("Plus of %s and %s is %s, want no terms", show(w), show(a), show(l))
			}
		}
		for _, f := range append(rights(), wrongs()...) {
			if l := linear.Times(w, f); len(l) != 0 {
				t.Errorf("%s times %s is %s, want no terms", show(w), showFrac(f), show(l))
			}
		}
	}
}

func TestTimes(t *testing.T) {
	for _, c := range []struct{ a, f, want string }{
		{"", "1", ""}, {"", "0", ""}, {"", "-1/2", ""}, {"0:2 2:-1", "1", "0:2 2:-1"}, {"0:2 2:-1", "-1", "0:-2 2:1"}, {"0:2 2:-1", "-1/3", "0:-2/3 2:1/3"}, {"0:2 2:-1", "1/2", "0:1 2:-1/2"}, {"0:2 2:-1", "0", ""}, {"0:2", "0", ""}, {"1499:1", "0", ""}, {"0:1/7 1:3/7 2:5", "7", "0:1 1:3 2:35"}, {"0:2/3 4:-3/2", "-3/2", "0:-1 4:9/4"}, {"0:1 1499:1", "5", "0:5 1499:5"},
		{"0:123456789012345678901234567891 1:7", "1/123456789012345678901234567891", "0:1 1:7/123456789012345678901234567891"}, {"0:9223372036854775807", "-9223372036854775807", "0:-85070591730234615847396907784232501249"}, {"3:1/9223372036854775808", "9223372036854775808", "3:1"},
	} {
		termsAre(t, c.a+" times "+c.f, linear.Times(terms(c.a), raw(c.f)), terms(c.want))
	}
	for _, w := range wrongs() {
		for _, a := range []string{"", "0:1", "0:2 2:-1", "1499:-1/3"} {
			if l := linear.Times(terms(a), w); len(l) != 0 {
				t.Errorf("%s times %s is %s, want no terms", a, showFrac(w), show(l))
			}
		}
	}
}

func TestPlusAndTimesOfAllVariables(t *testing.T) {
	var a, b, sum, minus []api.Term
	for i := range api.MaxVars {
		a = append(a, api.Term{Var: i, Coef: raw("1/2")})
		minus = append(minus, api.Term{Var: i, Coef: raw("-1/2")})
		coef := raw("1/2")
		if i%3 > 0 {
			b = append(b, api.Term{Var: i, Coef: raw(strconv.Itoa(i))})
			coef = raw(strconv.Itoa(2*i+1) + "/2")
		}
		sum = append(sum, api.Term{Var: i, Coef: coef})
	}
	for what, c := range map[string][2][]api.Term{
		"a + b": {linear.Plus(a, b), sum}, "b + a": {linear.Plus(b, a), sum}, "a + a - a": {linear.Plus(linear.Plus(a, a), minus), a}, "a - a": {linear.Plus(a, minus), nil}, "a times -1": {linear.Times(a, raw("-1")), minus},
	} {
		if !equalTerms(c[0], c[1]) {
			t.Errorf("%s of all variables is wrong", what)
		}
	}
	more := append(slices.Clone(a), api.Term{Var: api.MaxVars, Coef: raw("1")})
	if len(linear.Plus(more, b)) != 0 || len(linear.Plus(nil, more)) != 0 || len(linear.Times(more, raw("1"))) != 0 {
		t.Error("there are terms of one variable more than a system has")
	}
}

func TestSame(t *testing.T) {
	for _, c := range []struct {
		a, b string
		want bool
	}{
		{"", "", true}, {"0:1", "", false}, {"0:1", "0:1", true}, {"0:1", "0:-1", false}, {"0:1", "0:2", false}, {"0:1", "0:1/2", false}, {"0:1", "1:1", false}, {"0:1 1:1", "0:1", false}, {"0:1 1:1", "1:1 0:1", false}, {"0:1 1:1", "0:1 1:1", true}, {"0:1 1:1", "0:1 2:1", false}, {"0:1 1:1", "1:1 2:1", false}, {"0:1 1:1 2:1", "0:1 1:2 2:1", false}, {"0:1 1:1 2:1", "0:1 1:1 2:1 3:1", false},
		{"0:2/4", "0:1/2", false}, {"0:2/4", "0:2/4", true}, {"0:1/-2", "0:-1/2", false}, {"0:1/-2", "0:1/-2", true}, {"0:1/0", "0:1/0", true}, {"0:1/0", "0:2/0", false}, {"0:0", "0:0", true}, {"0:0", "", false}, {"0:0/2", "0:0", false}, {"-1:1", "-1:1", true}, {"-1:1", "0:1", false}, {"2:1 0:1", "2:1 0:1", true}, {"2:1 0:1", "0:1 2:1", false}, {"1:1 1:1", "1:1 1:1", true}, {"1:1 1:1", "1:2", false}, {"1:1 1:1", "1:1", false}, {"5000:1", "5000:1", true}, {"0:1 5000:1", "0:1 5001:1", false},
		{"9223372036854775807:1", "9223372036854775807:1", true}, {"-9223372036854775808:1", "9223372036854775807:1", false}, {"0:1", "4294967296:1", false},
	} {
		if linear.Same(terms(c.a), terms(c.b)) != c.want || linear.Same(terms(c.b), terms(c.a)) != c.want {
			t.Errorf("Same of %q and %q is not %t", c.a, c.b, c.want)
		}
	}
	if !linear.Same(nil, []api.Term{}) || !linear.Same([]api.Term{{}}, []api.Term{{Coef: parts(digits(0, []int{}...), digits(0, []int{}...))}}) || linear.Same([]api.Term{{}}, nil) {
		t.Error("Same of lists of nothing is wrong")
	}
}

func TestSameLooksAtEachTerm(t *testing.T) {
	all := append(rights(), wrongs()...)
	for n := 1; n < 5; n++ {
		for i := range n {
			for _, f := range all {
				a, b := ascending(n), ascending(n)
				a[i].Coef = f
				if want := equal(f, b[i].Coef); linear.Same(a, b) != want || linear.Same(b, a) != want {
					t.Errorf("Same of %s and %s is %t", show(a), show(b), !want)
				}
				b[i].Coef = parts(digits(f.P.Sign, slices.Clone(f.P.Digits)...), digits(f.Q.Sign, slices.Clone(f.Q.Digits)...))
				if !linear.Same(a, b) {
					t.Errorf("Same of %s and its copy is false", show(a))
				}
			}
			for _, v := range vars() {
				a, b := ascending(n), ascending(n)
				a[i].Var = v
				if want := v == b[i].Var; linear.Same(a, b) != want || linear.Same(b, a) != want {
					t.Errorf("Same of %s and %s is %t", show(a), show(b), !want)
				}
			}
		}
	}
	for _, f := range all {
		for _, g := range all {
			if want := equal(f, g); linear.Same([]api.Term{{Var: 3, Coef: f}}, []api.Term{{Var: 3, Coef: g}}) != want {
				t.Errorf("Same of terms with %s and %s is %t", showFrac(f), showFrac(g), !want)
			}
		}
	}
}
