package dual_test

import (
	"math"
	"slices"
	"strings"
	"testing"

	"kerbside/api"
	"kerbside/dual"
)

// The chapter's examples.

func TestExamples(t *testing.T) {
	s := system(2, "0:1 1:1 >= 4", "0:1 <= 3")
	mixIs(t, s, "1 -1", "1:1", "1")
	boundIs(t, s, "1:1", "1 -1", "1")
	noBound(t, s, terms("1:1"), point("1 1"))
	for x, want := range map[string]bool{"3 1": true, "2 2": false} {
		if dual.Check(s, terms("1:1"), api.Optimum{Value: raw("1"), X: point(x), Y: point("1 -1")}) != want {
			t.Errorf("Check at %s is %t", x, !want)
		}
	}
	if !dual.Refutes(with(s, 2, row("1:1 <= 1/2")), point("1 -1 -1")) {
		t.Error("a system without a solution is not refuted")
	}
	mixIs(t, with(s, 2, row("1:1 <= 1/2")), "1 -1 -1", "", "1/2")
	for d, want := range map[string]bool{"0 1": true, "1 1": false} {
		if dual.Ray(s, terms("1:-1"), point(d)) != want {
			t.Errorf("Ray with %s is %t", d, !want)
		}
	}
}

// mixIs checks the mix of a system with multipliers.
func mixIs(t *testing.T, s api.System, y, l, value string) {
	t.Helper()
	if got, f := dual.Mix(s, point(y)); !equalTerms(got, terms(l)) || !equal(f, raw(value)) {
		t.Errorf("the mix of %s with %s is %s; %s, want %s; %s", showSystem(s), y, show(got), showFrac(f), l, value)
	}
}

// noMix checks that there are no multipliers, or no system.
func noMix(t *testing.T, s api.System, y []api.Frac) {
	t.Helper()
	if l, f := dual.Mix(s, y); len(l) != 0 || !equal(f, api.Frac{}) {
		t.Errorf("the mix of %s with %s is %s; %s, want nothing", showSystem(s), showAll(y), show(l), showFrac(f))
	}
}

// boundIs checks what multipliers prove.
func boundIs(t *testing.T, s api.System, goal, y, value string) {
	t.Helper()
	if f, is := dual.Lower(s, terms(goal), point(y)); !is || !equal(f, raw(value)) {
		t.Errorf("Lower of %s, goal %s, with %s is %s, %t, want %s", showSystem(s), goal, y, showFrac(f), is, value)
	}
}

// noBound checks that multipliers prove nothing.
func noBound(t *testing.T, s api.System, goal []api.Term, y []api.Frac) {
	t.Helper()
	if f, is := dual.Lower(s, goal, y); is || !equal(f, api.Frac{}) {
		t.Errorf("Lower of %s, goal %s, with %s is %s, %t, want a zero fraction, false", showSystem(s), show(goal), showAll(y), showFrac(f), is)
	}
}

func signedIs(t *testing.T, s api.System, y []api.Frac, want bool) {
	t.Helper()
	if dual.Signed(s, y) != want {
		t.Errorf("Signed of %s with %s is %t", showSystem(s), showAll(y), !want)
	}
}

func refutesIs(t *testing.T, s api.System, y []api.Frac, want bool) {
	t.Helper()
	if dual.Refutes(s, y) != want {
		t.Errorf("Refutes of %s with %s is %t", showSystem(s), showAll(y), !want)
	}
}

func rayIs(t *testing.T, s api.System, goal []api.Term, d []api.Frac, want bool) {
	t.Helper()
	if dual.Ray(s, goal, d) != want {
		t.Errorf("Ray of %s, goal %s, with %s is %t", showSystem(s), show(goal), showAll(d), !want)
	}
}

func checkIs(t *testing.T, s api.System, goal []api.Term, o api.Optimum, want bool) {
	t.Helper()
	if dual.Check(s, goal, o) != want {
		t.Errorf("Check of %s, goal %s, with kind %d, value %s, X %s, Y %s and ray %s is %t", showSystem(s), show(goal), o.Kind, showFrac(o.Value), showAll(o.X), showAll(o.Y), showAll(o.Ray), !want)
	}
}

// harms are rows that are not right for 3 variables.
func harms() []api.Row {
	l := []api.Row{{}, {Kind: -1, Value: raw("0")}, {Kind: api.RoKinds, Value: raw("0")}, {Terms: terms("0:1"), Kind: math.MinInt, Value: raw("0")}, {Terms: terms("0:1"), Kind: math.MaxInt, Value: raw("0")}, {Terms: terms("0:1"), Kind: 1 << 32, Value: raw("0")}}
	for _, s := range []string{"3:1 >= 0", "-1:1 >= 0", "0:1 3:1 <= 0", "2:1 0:1 == 0", "1:1 1:1 == 0", "0:0 >= 0", "0:1 1:0 >= 0", "0:2/4 <= 0", "0:1 <= 2/4", "0:1 == 0/2", ">= 1/0"} {
		l = append(l, row(s))
	}
	for _, f := range wrongs() {
		l = append(l, api.Row{Kind: api.RoLeast, Value: f}, api.Row{Terms: []api.Term{{Var: 1, Coef: f}}, Kind: api.RoMost, Value: raw("0")})
	}
	return l
}

// nothingHolds checks that all functions refuse a system, or a list of multipliers, points and rays that would be right for others.
func nothingHolds(t *testing.T, s api.System, goal []api.Term, y, x []api.Frac) {
	t.Helper()
	noMix(t, s, y)
	signedIs(t, s, y, false)
	noBound(t, s, goal, y)
	refutesIs(t, s, y, false)
	noOptimum(t, s, goal, y, x)
}

// noOptimum checks that Ray and Check accept nothing.
func noOptimum(t *testing.T, s api.System, goal []api.Term, y, x []api.Frac) {
	t.Helper()
	rayIs(t, s, goal, x, false)
	checkIs(t, s, goal, api.Optimum{Kind: api.OpNone, Y: y}, false)
	checkIs(t, s, goal, api.Optimum{Kind: api.OpFree, X: x, Ray: x}, false)
	for _, value := range []string{"-2", "-1", "0", "1", "2", "3"} {
		checkIs(t, s, goal, api.Optimum{Kind: api.OpFound, Value: raw(value), X: x, Y: y}, false)
	}
}

func TestSystemsThatAreNotRight(t *testing.T) {
	one := row("0:1 1:1 2:1 >= 0")
	for _, harm := range harms() {
		for n := range 4 {
			for i := range n + 1 {
				s := with(api.System{N: 3, Rows: slices.Repeat([]api.Row{one}, n)}, i, harm)
				nothingHolds(t, s, terms("0:1 1:1 2:1"), append(point("1"), slices.Repeat(point("0"), n)...), point("0 0 0"))
				nothingHolds(t, s, terms("0:-1"), slices.Repeat(point("0"), n+1), point("1 1 1"))
				nothingHolds(t, s, nil, slices.Repeat(point("0"), n), point("1 1 1"))
			}
		}
	}
	for _, n := range []int{-1, math.MinInt, -1 << 32, api.MaxVars + 1, 1 << 32, math.MaxInt} {
		for _, s := range []api.System{system(n), system(n, ">= 1"), system(n, "0:1 >= 1")} {
			nothingHolds(t, s, nil, slices.Repeat(point("1"), len(s.Rows)), nil)
			nothingHolds(t, s, terms("0:-1"), slices.Repeat(point("1"), len(s.Rows)), point("1"))
			nothingHolds(t, s, terms("0:1"), slices.Repeat(point("0"), len(s.Rows)), point("1"))
		}
	}
	x := slices.Repeat(point("1"), api.MaxVars+1)
	nothingHolds(t, system(api.MaxVars+1), nil, nil, x)
	nothingHolds(t, system(api.MaxVars+1), terms("0:-1"), nil, x)
}

func TestNoRowsAndNoVariables(t *testing.T) {
	for _, s := range []api.System{{}, {Rows: []api.Row{}}} {
		for _, none := range [][]api.Frac{nil, {}} {
			l, f := dual.Mix(s, none)
			if len(l) != 0 || !equal(f, raw("0")) {
				t.Errorf("the mix of nothing is %s; %s", show(l), showFrac(f))
			}
			signedIs(t, s, none, true)
			boundIs(t, s, "", "", "0")
			refutesIs(t, s, none, false)
			rayIs(t, s, nil, none, false)
			checkIs(t, s, nil, api.Optimum{Value: raw("0"), X: none, Y: none, Ray: none}, true)
			checkIs(t, s, nil, api.Optimum{Value: raw("1"), X: none, Y: none, Ray: none}, false)
			checkIs(t, s, nil, api.Optimum{X: none, Y: none, Ray: none}, false)
			checkIs(t, s, nil, api.Optimum{Kind: api.OpNone, X: none, Y: none, Ray: none}, false)
			checkIs(t, s, nil, api.Optimum{Kind: api.OpFree, X: none, Y: none, Ray: none}, false)
			nothingHolds(t, s, nil, point("0"), point("0"))
			noOptimum(t, s, terms("0:1"), none, none)
		}
	}
	// Rows without terms, and variables without rows.
	mixIs(t, system(0, ">= 2", "== -3"), "5 -1/3", "", "11")
	refutesIs(t, system(0, ">= 2"), point("1/7"), true)
	refutesIs(t, system(0, ">= 0"), point("1/7"), false)
	refutesIs(t, system(0, "<= -1"), point("-1"), true)
	checkIs(t, system(0, ">= 2"), nil, api.Optimum{Kind: api.OpNone, Y: point("1")}, true)
	checkIs(t, system(0, ">= -2"), nil, api.Optimum{Value: raw("0"), Y: point("0")}, true)
	checkIs(t, system(0, ">= -2"), nil, api.Optimum{Value: raw("-2"), Y: point("1")}, false)
	mixIs(t, system(3), "", "", "0")
	boundIs(t, system(3), "0:1 2:1/2", "", "0")
	noBound(t, system(3), terms("0:1 2:-1/2"), nil)
	rayIs(t, system(3), terms("0:1 2:-1/2"), point("0 0 1"), true)
	checkIs(t, system(3), terms("0:1 2:-1/2"), api.Optimum{Kind: api.OpFree, X: point("7 0 0"), Ray: point("0 0 1")}, true)
	checkIs(t, system(3), terms("0:1 2:1/2"), api.Optimum{Value: raw("0"), X: point("0 9 0")}, true)
}

// P9.1

func TestSigned(t *testing.T) {
	// The rows of each kind, with each sign.
	for kind := range api.RoKinds {
		for _, y := range []string{"-5", "-1", "-1/1000000000000000000000000", "0", "1/1000000000000000000000000", "1", "5"} {
			want := kind == api.RoEqual || y == "0" || strings.HasPrefix(y, "-") == (kind == api.RoMost)
			for _, l := range []string{"", "0:1", "0:-1 1:3"} {
				for _, value := range []string{"-1", "0", "1"} {
					signedIs(t, api.System{N: 2, Rows: []api.Row{{Terms: terms(l), Kind: kind, Value: raw(value)}}}, point(y), want)
				}
			}
		}
	}
	s := system(3, "0:1 1:1 >= 4", "0:1 <= 3", "0:1 2:-1 == 1", "1:1 >= 0")
	for y, want := range map[string]bool{
		"1 -1 0 0": true, "0 0 0 0": true, "2 -7/3 5 1/9": true, "2 -7/3 -5 1/9": true, "-1 -1 0 0": false, "1 1 0 0": false, "1 -1 1 -1": false, "-1 1 0 0": false, "0 0 0 -1/1000": false, "0 1/1000 0 0": false, "-1/1000 0 0 0": false, "0 0 -1 0": true,
		"": false, "1": false, "1 -1 0": false, "1 -1 0 0 0": false, "0 0 0": false, "0 0 0 0 0": false, "1 -1 0 0 0 0 0 0": false,
	} {
		signedIs(t, s, point(y), want)
	}
}

func TestMultipliersThatAreNotRight(t *testing.T) {
	rows := []string{"0:1 1:1 >= 1", "0:-1 <= -1", "2:1 == 1", "1:1 >= 1"}
	for n := 1; n <= len(rows); n++ {
		s := system(3, rows[:n]...)
		for _, goal := range []string{"", "0:-1", "0:1 1:1 2:1"} {
			nothingHolds(t, s, terms(goal), point("1 -1 0 1 1")[:n-1], point("0 0 0"))
			nothingHolds(t, s, terms(goal), point("1 -1 0 1 1")[:n+1], point("0 0 0"))
			nothingHolds(t, s, terms(goal), slices.Repeat(point("0"), n+1), point("0 0 0"))
			nothingHolds(t, s, terms(goal), nil, point("0 0 0"))
		}
		for i := range n {
			for _, f := range wrongs() {
				nothingHolds(t, s, terms("0:1 1:1 2:1"), replaced(point("1 -1 0 1")[:n], i, f), point("0 0 0"))
				nothingHolds(t, s, terms("0:1 1:1 2:1"), replaced(slices.Repeat(point("0"), n), i, f), point("0 0 0"))
			}
		}
	}
}

func TestMix(t *testing.T) {
	s := system(3, "0:1 1:1 >= 4", "0:1 <= 3", "0:1 2:-1 == 1")
	long := "123456789012345678901234567891"
	for _, c := range []struct {
		s        api.System
		y, l, as string
	}{
		{s, "1 -1 0", "1:1", "1"}, {s, "0 0 0", "", "0"}, {s, "1 0 0", "0:1 1:1", "4"}, {s, "0 1 0", "0:1", "3"}, {s, "0 0 1", "0:1 2:-1", "1"}, {s, "1 1 1", "0:3 1:1 2:-1", "8"}, {s, "-1 0 1", "1:-1 2:-1", "-3"}, {s, "1 0 -1", "1:1 2:1", "3"}, {s, "0 -1 1", "2:-1", "-2"}, {s, "1/2 -1/3 0", "0:1/6 1:1/2", "1"}, {s, "1/4 1 -5/4", "1:1/4 2:5/4", "11/4"}, {s, "1/4 -1 3", "0:9/4 1:1/4 2:-3", "1"},
		{system(2, "0:1 1:2 >= 3", "0:-1 1:-2 >= -3"), "1 1", "", "0"}, {system(2, "0:1 1:2 >= 3", "0:-1 1:-2 >= -3"), "2 1", "0:1 1:2", "3"}, {system(2, "0:1 1:2 >= 3", "0:-1/2 1:2 >= -3"), "1 2", "1:6", "-3"}, {system(2, "0:1 1:2 >= 3", "0:1 1:2 <= 5"), "1 -1", "", "-2"},
		{system(1, "0:1 >= 0"), "5", "0:5", "0"}, {system(1, "0:1 == 5"), "0", "", "0"}, {system(2, "1:1 >= 5"), "-1", "1:-1", "-5"}, {system(2, "0:1/3 == 1/7", "0:-1/5 == 1/11"), "3/2 5/2", "", "34/77"}, {system(4, "3:1 >= 1", "0:1 >= 1", "2:1 >= 1"), "1 2 3", "0:2 2:3 3:1", "6"},
		{system(2, "0:"+long+" 1:1/"+long+" == "+long, "0:-1 1:1 == 1/"+long), "1/" + long + " " + long, "0:-123456789012345678901234567890 1:1881676372353657772546716040635366462517193740100895480895672764451741453861189657928972/15241578753238836750495351562783112365526596557677488187881", "2"},
		{system(1, "0:9223372036854775807 == 9223372036854775807", "0:1 == 1"), "9223372036854775807 9223372036854775807", "0:85070591730234615856620279821087277056", "85070591730234615856620279821087277056"},
	} {
		mixIs(t, c.s, c.y, c.l, c.as)
	}
}

func TestMixOfRowsWithNothingInCommon(t *testing.T) {
	// The terms ascend by variable, whatever the order of the rows.
	rows := []string{"5:1 6:2 >= 1", "0:1 == 1", "2:1 9:1 <= 1", "1:1 >= 1", "3:1 4:1 7:1 8:1 == 1"}
	want := terms("0:1 1:3 2:2 3:4 4:4 7:4 8:4 9:2")
	for _, order := range lists(5, 0, 4) {
		if sorted := slices.Sorted(slices.Values(order)); !slices.Equal(sorted, []int64{0, 1, 2, 3, 4}) {
			continue
		}
		s := system(10)
		var y []api.Frac
		for _, i := range order {
			s.Rows = append(s.Rows, row(rows[i]))
			y = append(y, point("0 1 2 3 4")[i])
		}
		if got, f := dual.Mix(s, y); !equalTerms(got, want) || !equal(f, raw("10")) {
			t.Errorf("the mix in the order %v is %s; %s", order, show(got), showFrac(f))
		}
	}
}

// P9.2

func TestLower(t *testing.T) {
	s := system(3, "0:1 1:1 >= 4", "0:1 <= 3", "0:1 2:-1 == 1")
	for _, c := range []struct{ goal, y, value string }{
		{"1:1", "1 -1 0", "1"}, {"1:2", "1 -1 0", "1"}, {"0:1 1:1", "1 -1 0", "1"}, {"1:1 2:7", "1 -1 0", "1"}, {"0:1/9 1:1 2:7", "1 -1 0", "1"}, {"0:1 1:1", "1 0 0", "4"}, {"0:1 1:1", "1/2 0 0", "2"}, {"0:1", "0 0 0", "0"}, {"", "0 0 0", "0"}, {"", "0 -1 0", "-3"}, {"0:-1", "0 -1 0", "-3"}, {"0:-1/2", "0 -1 0", "-3"}, {"0:-1 2:1", "0 0 -1", "-1"}, {"2:1", "0 0 -1", "-1"}, {"0:1 2:-1", "0 0 1", "1"}, {"0:1", "0 0 1", "1"}, {"1:1 2:1", "1 0 -1", "3"}, {"2:-1", "0 -1 1", "-2"}, {"", "0 -1 1", "-2"}, {"0:1", "0 -5 3", "-12"},
	} {
		boundIs(t, s, c.goal, c.y, c.value)
	}
	for _, c := range []struct{ goal, y string }{
		{"1:1", "1 0 0"}, {"1:1", "1 -1/2 0"}, {"1:1/2", "1 -1 0"}, {"", "1 -1 0"}, {"0:1", "1 -1 0"}, {"0:-1 1:1", "1 -1 0"}, {"1:1 2:-1", "1 -1 0"}, {"0:-1 1:1 2:1", "1 -1 0"}, {"0:1 1:1", "2 0 0"}, {"0:2 1:1", "2 0 0"}, {"0:1 1:2", "2 0 0"}, {"0:-1", "0 0 0"}, {"2:-1", "0 0 0"}, {"0:-2", "0 -1 0"}, {"0:-1 1:-1", "0 -1 0"},
		{"1:1", "1 1 0"}, {"1:1", "-1 -1 0"}, {"0:9 1:9 2:9", "0 1 0"}, {"0:9 1:9 2:9", "-1 0 0"}, {"0:1", "0 0 -1"}, {"2:1", "0 0 1"}, {"2:-2", "0 -1 1"},
	} {
		noBound(t, s, terms(c.goal), point(c.y))
	}
}

func TestLowerOfGoalsThatAreNotRight(t *testing.T) {
	s := system(3, "0:1 1:1 >= 1", "2:1 == 1")
	free := system(3, "0:1 1:-1 >= 0")
	none := with(s, 0, row(">= 1"))
	goals := [][]api.Term{}
	for _, l := range []string{"3:1", "0:1 1:1 2:1 3:1", "-1:1", "-1:1 0:1 1:1 2:1", "4294967296:1", "9223372036854775807:1", "-9223372036854775808:1", "1:1 0:1", "0:1 0:1", "0:1 1:1 1:1 2:1", "0:1 2:1 1:1", "0:0", "0:1 1:1 2:0", "0:2/4", "0:1 1:1 2:2/2", "0:1/0", "0:1 1:1/-1", "0:-1 3:1", "0:-1 1:0", "0:-1 0:-1"} {
		goals = append(goals, terms(l))
	}
	for _, f := range wrongs() {
		goals = append(goals, []api.Term{{Var: 0, Coef: f}}, append(terms("0:1 1:1"), api.Term{Var: 2, Coef: f}), append([]api.Term{{Var: 0, Coef: f}}, terms("1:1 2:1")...))
	}
	for _, goal := range goals {
		for _, y := range []string{"0 0", "1 0", "1 1"} {
			noBound(t, s, goal, point(y))
			noOptimum(t, s, goal, point(y), point("1 0 1"))
		}
		rayIs(t, free, goal, point("1 1 0"), false)
		checkIs(t, free, goal, api.Optimum{Kind: api.OpFree, X: point("0 0 0"), Ray: point("1 1 0")}, false)
		refutesIs(t, none, point("1 0 0"), true)
		checkIs(t, none, nil, api.Optimum{Kind: api.OpNone, Y: point("1 0 0")}, true)
		checkIs(t, none, goal, api.Optimum{Kind: api.OpNone, Y: point("1 0 0")}, false)
	}
}

func TestLowerLooksAtEachVariable(t *testing.T) {
	// The mix is 2 of each variable but x3, which cancels out, x4, which is -2, and x5, which no row has.
	s := system(6, "0:2 1:2 2:2 3:1 >= 1", "3:1 4:2 <= 0")
	goal := []string{"2", "2", "2", "0", "-2", "0"}
	least := "1/1000000000000000000000000000000"
	text := func(l []string) string {
		var out []string
		for v, f := range l {
			if f != "0" {
				out = append(out, string(rune('0'+v))+":"+f)
			}
		}
		return strings.Join(out, " ")
	}
	boundIs(t, s, text(goal), "1 -1", "1")
	less := []string{"1999999999999999999999999999999/1000000000000000000000000000000", "1999999999999999999999999999999/1000000000000000000000000000000", "1", "-" + least, "-2000000000000000000000000000001/1000000000000000000000000000000", "-" + least}
	more := []string{"2000000000000000000000000000001/1000000000000000000000000000000", "3", "2000000000000000000000000000001/1000000000000000000000000000000", least, "-1999999999999999999999999999999/1000000000000000000000000000000", "1"}
	for v := range goal {
		boundIs(t, s, text(replaced(goal, v, more[v])), "1 -1", "1")
		noBound(t, s, terms(text(replaced(goal, v, less[v]))), point("1 -1"))
		noBound(t, s, terms(text(replaced(more, v, less[v]))), point("1 -1"))
	}
	boundIs(t, s, text(more), "1 -1", "1")
	// Without a variable that the mix has with a positive, a zero and a negative coefficient.
	for v, want := range []bool{false, false, false, true, true, true} {
		without := terms(text(replaced(goal, v, "0")))
		if f, is := dual.Lower(s, without, point("1 -1")); is != want || is && !equal(f, raw("1")) {
			t.Errorf("Lower of a goal without the variable %d is %s, %t", v, showFrac(f), is)
		}
	}
}

// P9.3

func TestRefutes(t *testing.T) {
	s := system(3, "0:1 1:1 >= 4", "0:1 <= 3", "1:1 <= 1/2", "0:1 2:-1 == 1")
	for y, want := range map[string]bool{
		"1 -1 -1 0": true, "2 -2 -2 0": true, "1/9 -1/9 -1/9 0": true, "1 -1 -1 1/7": false, "1 -2 -1 1": false, "1 -1 -1 -1/7": false, "1 -1 -8/7 0": true, "1 -7/6 -1 0": false, "1 -8/7 -1 0": true, "2 -2 -3 0": true, "2 -2 -4 0": false, "2 -2 -5 0": false,
		"0 0 0 0": false, "1 0 0 0": false, "1 -1 0 0": false, "1 0 -1 0": false, "-1 -1 -1 0": false, "1 1 -1 0": false, "1 -1 1 0": false, "-1 1 1 0": false, "1 -1 -1": false, "1 -1 -1 0 0": false, "": false, "2 -1 -1 0": false, "1 -1/2 -1 0": false, "1 -1 -1/2 0": false,
	} {
		refutesIs(t, s, point(y), want)
	}
	// A coefficient that is just positive, and a value that is just so.
	long := "1000000000000000000000000000000"
	for i, c := range []struct {
		s    api.System
		y    string
		want bool
	}{
		{system(1, "0:1 >= 1", "0:1 <= 1"), "1 -1", false}, {system(1, "0:1 >= 1", "0:1 <= 999999999999999999999999999999/"+long), "1 -1", true}, {system(1, "0:1 >= 1", "0:1 <= 1000000000000000000000000000001/"+long), "1 -1", false}, {system(1, "0:1 >= 2", "0:1 <= 1"), "1 -999999999999999999999999999999/" + long, false}, {system(1, "0:1 >= 2", "0:1 <= 1"), "1 -1000000000000000000000000000001/" + long, true},
		{system(1, "0:-1 >= 1"), "1", true}, {system(1, "0:-1 >= 0"), "1", false}, {system(1, "0:-1 == 1"), "1", true}, {system(1, "0:1 == -1"), "-1", true}, {system(1, "0:1 <= -1"), "-1", true}, {system(1, "0:1 <= 0"), "-1", false}, {system(1, "0:1 <= 1"), "-1", false}, {system(1, "0:1 >= 1"), "1", false}, {system(2, "0:-1 >= 1"), "1", true}, {system(2, "0:-1 1:1/"+long+" >= 1"), "1", false}, {system(2, "0:1/"+long+" 1:-1 >= 1"), "1", false}, {system(1, "0:"+long+" == 1", "0:1 == 1"), "-1 2", true}, {system(1, "0:"+long+" == 1", "0:1 == 1"), "-1 " + long, true}, {system(1, "0:"+long+" == 1", "0:1 == 1"), "-1 1000000000000000000000000000001", false},
	} {
		if dual.Refutes(c.s, point(c.y)) != c.want {
			t.Errorf("%d: Refutes of %s with %s is %t", i, showSystem(c.s), c.y, !c.want)
		}
	}
}

// P9.4

func TestRay(t *testing.T) {
	s := system(3, "0:1 1:1 >= 4", "0:1 <= 3", "0:1 2:-1 == 1")
	for _, c := range []struct {
		goal, d string
		want    bool
	}{
		{"1:-1", "0 1 0", true}, {"1:-1", "0 1/1000000000000000000000000000000 0", true}, {"0:9 1:-1 2:9", "0 7 0", true}, {"1:1", "0 1 0", false}, {"", "0 1 0", false}, {"0:-1", "0 1 0", false}, {"0:-1 2:-1", "0 1 0", false}, {"1:-1", "1 1 1", false}, {"1:-1", "0 1 1", false}, {"1:-1", "1 1 0", false}, {"1:-1", "0 0 0", false}, {"", "0 0 0", false}, {"0:-1", "1 0 1", false}, {"2:-1", "0 1 1", false},
		{"1:-1", "0 1", false}, {"1:-1", "0 1 0 0", false}, {"1:-1", "", false}, {"1:-1", "1", false}, {"1:1", "0 -1 0", false}, {"1:-1", "-1 1 -1", false}, {"1:-1", "0 1 -1", false}, {"1:-1", "-1 1 0", false}, {"0:1", "-1 1 -1", false}, {"1:-1", "0 2/2 0", false}, {"1:-1", "0/2 1 0", false}, {"1:-1", "0 1 0/2", false}, {"1:-1 3:1", "0 1 0", false}, {"1:-1 3:1", "0 1 0 0", false}, {"3:-1", "0 1 0 1", false},
	} {
		rayIs(t, s, terms(c.goal), point(c.d), c.want)
	}
}

func TestRayOfRowsThatAreJustKept(t *testing.T) {
	just := "1000000000000000000000000000001/1000000000000000000000000000000"
	for kind, signs := range []string{">=", "<=", "=="} {
		for order, d := range []string{"1 " + just, "1 1", just + " 1"} {
			// The value of the row at d is a bit less than 0, 0, and a bit greater.
			want := order == 1 || order == 0 && kind == api.RoMost || order == 2 && kind == api.RoLeast
			for _, value := range []string{"-5", "0", "5", just, "-" + just} {
				s := system(2, "0:1 1:-1 "+signs+" "+value)
				rayIs(t, s, terms("0:-1"), point(d), want)
				for _, more := range []string{">= 0", ">= 7", "<= -7", "0:1 1:1 >= 9", "0:-1 <= 1"} {
					rayIs(t, with(s, 0, row(more)), terms("0:-1"), point(d), want)
					rayIs(t, with(s, 1, row(more)), terms("0:-1"), point(d), want)
				}
				for _, bad := range []string{"0:1 <= 9", "1:-1 >= 0", "0:1 1:1 == 0", "0:-1 1:-1/2 == 3"} {
					rayIs(t, with(s, 0, row(bad)), terms("0:-1"), point(d), false)
					rayIs(t, with(s, 1, row(bad)), terms("0:-1"), point(d), false)
				}
			}
		}
	}
	for d, want := range map[string]bool{"1 1": false, "1 2": true, "1 " + just: true, just + " 1": false, "0 1": true, "1 0": false} {
		rayIs(t, system(2), terms("0:1 1:-1"), point(d), want)
	}
}

func TestRayLooksAtEachElement(t *testing.T) {
	for n := 1; n < 6; n++ {
		for i := range n {
			d := slices.Repeat(point("1"), n)
			goal := []api.Term{{Var: n - 1, Coef: raw("-1")}}
			rayIs(t, api.System{N: n}, goal, d, true)
			rayIs(t, api.System{N: n}, []api.Term{{Var: i, Coef: raw("-1")}}, d, true)
			for _, f := range append(wrongs(), point("-1 -1/1000000000000000000000000000000 -1000000000000000000000000000000")...) {
				for _, l := range [][]api.Term{goal, {{Var: i, Coef: raw("-1")}}, {{Var: i, Coef: raw("1")}}} {
					rayIs(t, api.System{N: n}, l, replaced(d, i, f), false)
					checkIs(t, api.System{N: n}, l, api.Optimum{Kind: api.OpFree, X: d, Ray: replaced(d, i, f)}, false)
					checkIs(t, api.System{N: n}, l, api.Optimum{Kind: api.OpFree, X: replaced(d, i, f), Ray: d}, false)
				}
			}
		}
	}
}

// P9.5

// mistakes are the changes of an optimum with the fields that are given instead; each one makes it wrong.
type mistakes struct {
	values     []api.Frac
	xs, ys, ds []string
}

func (m mistakes) check(t *testing.T, s api.System, goal []api.Term, o api.Optimum) {
	t.Helper()
	checkIs(t, s, goal, o, true)
	kind := o.Kind
	for _, k := range []int{math.MinInt, -1 << 32, -1, api.OpFound, api.OpNone, api.OpFree, api.OpKinds, 4, 1 << 32, 1<<32 + 1, math.MaxInt} {
		o.Kind = k
		checkIs(t, s, goal, o, k == kind)
	}
	o.Kind = kind
	for _, f := range m.values {
		a := o
		a.Value = f
		checkIs(t, s, goal, a, false)
	}
	for _, x := range m.xs {
		a := o
		a.X = point(x)
		checkIs(t, s, goal, a, false)
	}
	for _, y := range m.ys {
		a := o
		a.Y = point(y)
		checkIs(t, s, goal, a, false)
	}
	for _, d := range m.ds {
		a := o
		a.Ray = point(d)
		checkIs(t, s, goal, a, false)
	}
	// Each field of one fraction that is not right, which is not empty either.
	for _, f := range wrongs() {
		for _, field := range []func(o *api.Optimum) *[]api.Frac{func(o *api.Optimum) *[]api.Frac { return &o.X }, func(o *api.Optimum) *[]api.Frac { return &o.Y }, func(o *api.Optimum) *[]api.Frac { return &o.Ray }} {
			a := o
			*field(&a) = []api.Frac{f}
			checkIs(t, s, goal, a, false)
			*field(&a) = append(slices.Clone(*field(&o)), f)
			checkIs(t, s, goal, a, false)
			for i := range *field(&o) {
				*field(&a) = replaced(*field(&o), i, f)
				checkIs(t, s, goal, a, false)
			}
		}
	}
}

// noZeros are fractions, right and not, that differ from the zero value of their type.
func noZeros() []api.Frac {
	l := append(wrongs(), point("0 1 -1 1/2 -4 1000000000000000000000000000000")...)
	for _, w := range []api.Big{digits(1), digits(-1), digits(0, 0), digits(0, 1), digits(1, 1)} {
		l = append(l, parts(w, api.Big{}), parts(api.Big{}, w), parts(w, w))
	}
	return slices.DeleteFunc(l, func(f api.Frac) bool { return equal(f, api.Frac{}) })
}

func TestCheckOfFound(t *testing.T) {
	s := system(3, "0:1 1:1 >= 4", "0:1 <= 3", "0:1 2:-1 == 1")
	o := api.Optimum{Kind: api.OpFound, Value: raw("1"), X: point("3 1 2"), Y: point("1 -1 0")}
	values := append(point("0 2 -1 1/2 2/2 3/3 1/1000000000000000000000000000000 1000000000000000000000000000001/1000000000000000000000000000000"), api.Frac{}, parts(digits(1, 1, 0), digits(1, 1)))
	m := mistakes{
		values: append(values, wrongs()...),
		xs:     []string{"", "3", "3 1", "3 1 2 0", "2 2 1", "5/2 3/2 3/2", "4 1 3", "3 1 1", "3 1 3", "3 0 2", "3 2 2", "3 1 -2", "2 1 1", "1 3 0", "0 4 -1", "6/2 1 2"},
		ys:     []string{"", "1 -1", "1 -1 0 0", "1 0 0", "0 0 0", "0 -1 0", "1/2 -1/2 0", "1 -2 0", "1 -1 1", "1 -1 -1", "2 -2 0", "1 1 0", "-1 1 0", "1 -1/2 0"},
		ds:     []string{"0", "0 0 0", "0 1 0", "1"},
	}
	m.check(t, s, terms("1:1"), o)
	// X is a solution with the value, but not the least one; Y proves a bound, but a lesser one.
	checkIs(t, s, terms("1:1"), api.Optimum{Value: raw("2"), X: point("2 2 1"), Y: point("1 -1 0")}, false)
	checkIs(t, s, terms("1:1"), api.Optimum{Value: raw("1/2"), X: point("3 1 2"), Y: point("1/2 -1/2 0")}, false)
	checkIs(t, s, terms("1:1"), api.Optimum{Value: raw("-3"), X: point("3 1 2"), Y: point("0 -1 0")}, false)
	// The value is that of Y, and of the goal at X, but X is no solution.
	checkIs(t, s, terms("1:1"), api.Optimum{Value: raw("1"), X: point("2 1 1"), Y: point("1 -1 0")}, false)
	checkIs(t, s, terms("1:1"), api.Optimum{Value: raw("1/2"), X: point("3 1/2 2"), Y: point("1/2 -1/2 0")}, false)
	// Other goals with the same solution.
	checkIs(t, s, terms("0:1 1:1"), api.Optimum{Value: raw("4"), X: point("3 1 2"), Y: point("1 0 0")}, true)
	checkIs(t, s, terms("0:1 1:1"), api.Optimum{Value: raw("4"), X: point("2 2 1"), Y: point("1 0 0")}, true)
	checkIs(t, s, nil, api.Optimum{Value: raw("0"), X: point("2 2 1"), Y: point("0 0 0")}, true)
	checkIs(t, s, nil, api.Optimum{Value: parts(digits(0, []int{}...), digits(1, 1)), X: point("2 2 1"), Y: point("0 0 0"), Ray: []api.Frac{}}, true)
	checkIs(t, s, nil, api.Optimum{Value: raw("0/2"), X: point("2 2 1"), Y: point("0 0 0")}, false)
	checkIs(t, s, nil, api.Optimum{X: point("2 2 1"), Y: point("0 0 0")}, false)
	checkIs(t, s, nil, api.Optimum{Value: raw("0"), X: point("2 2 2"), Y: point("0 0 0")}, false)
	checkIs(t, s, terms("0:-1"), api.Optimum{Value: raw("-3"), X: point("3 7 2"), Y: point("0 -1 0")}, true)
	checkIs(t, s, terms("2:1"), api.Optimum{Value: raw("0"), X: point("1 3 0"), Y: point("0 0 0")}, true)
	checkIs(t, s, terms("0:1"), api.Optimum{Value: raw("1"), X: point("1 3 0"), Y: point("0 0 1")}, true)
	// A system without a solution has no least value, though there are multipliers.
	none := with(s, 3, row("1:1 <= 1/2"))
	checkIs(t, none, terms("1:1"), api.Optimum{Value: raw("1"), X: point("3 1 2"), Y: point("1 -1 0 0")}, false)
	checkIs(t, none, terms("1:1"), api.Optimum{Value: raw("1"), Y: point("1 -1 0 0")}, false)
}

func TestCheckOfNone(t *testing.T) {
	s := system(3, "0:1 1:1 >= 4", "0:1 <= 3", "1:1 <= 1/2", "0:1 2:-1 == 1")
	o := api.Optimum{Kind: api.OpNone, Y: point("1 -1 -1 0")}
	m := mistakes{
		values: noZeros(),
		xs:     []string{"0", "0 0 0", "3 1 2", "3 1/2 2"},
		ys:     []string{"", "1 -1 -1", "1 -1 -1 0 0", "0 0 0 0", "1 -1 0 0", "1 -1 -1 1", "1 1 -1 0", "-1 -1 -1 0", "1 -1 -2 0", "2 -1 -1 0", "1 -7/6 -1 0"},
		ds:     []string{"0", "0 0 0", "0 1 0"},
	}
	for _, goal := range []string{"", "0:1", "0:-1 2:1", "0:1 1:1 2:1", "0:123456789012345678901234567891/7"} {
		m.check(t, s, terms(goal), o)
		for _, zero := range []api.Frac{{P: digits(0, []int{}...)}, {Q: digits(0, []int{}...)}, {P: digits(0, []int{}...), Q: digits(0, []int{}...)}} {
			checkIs(t, s, terms(goal), api.Optimum{Kind: api.OpNone, Value: zero, X: []api.Frac{}, Y: point("1 -1 -1 0"), Ray: []api.Frac{}}, true)
		}
		checkIs(t, s, terms(goal), api.Optimum{Kind: api.OpNone, Value: raw("1/2"), Y: point("1 -1 -1 0")}, false)
	}
	for _, goal := range []string{"3:1", "1:1 0:1", "0:0", "-1:1", "0:2/4"} {
		checkIs(t, s, terms(goal), o, false)
	}
}

func TestCheckOfFree(t *testing.T) {
	s := system(3, "0:1 1:1 >= 4", "0:1 <= 3", "0:1 2:-1 == 1")
	o := api.Optimum{Kind: api.OpFree, X: point("3 1 2"), Ray: point("0 1 0")}
	m := mistakes{
		values: noZeros(),
		xs:     []string{"", "3", "3 1", "3 1 2 0", "4 1 3", "3 1 1", "3 0 2", "0 4 -1", "0 0 0", "0 1 0", "3 2/2 2"},
		ys:     []string{"0", "0 0 0", "1 -1 0", "0 -1 0"},
		ds:     []string{"", "0", "0 1", "0 1 0 0", "0 0 0", "1 1 1", "1 1 0", "0 1 1", "0 -1 0", "1 0 1", "0 2/2 0", "3 1 2"},
	}
	m.check(t, s, terms("1:-1"), o)
	for _, zero := range []api.Frac{{P: digits(0, []int{}...)}, {Q: digits(0, []int{}...)}, {P: digits(0, []int{}...), Q: digits(0, []int{}...)}} {
		checkIs(t, s, terms("1:-1"), api.Optimum{Kind: api.OpFree, Value: zero, X: point("2 9 1"), Y: []api.Frac{}, Ray: point("0 1/7 0")}, true)
	}
	checkIs(t, s, terms("0:5 1:-1"), o, true)
	checkIs(t, s, terms("1:1"), o, false)
	checkIs(t, s, nil, o, false)
	checkIs(t, s, terms("0:-1"), o, false)
	// A system without a solution has rays, but no least values that fall.
	none := with(s, 3, row("0:1 >= 5"))
	rayIs(t, none, terms("1:-1"), point("0 1 0"), true)
	checkIs(t, none, terms("1:-1"), o, false)
	checkIs(t, none, terms("1:-1"), api.Optimum{Kind: api.OpFree, X: point("5 1 4"), Ray: point("0 1 0")}, false)
	checkIs(t, none, terms("1:-1"), api.Optimum{Kind: api.OpFree, Ray: point("0 1 0")}, false)
	checkIs(t, none, terms("1:-1"), api.Optimum{Kind: api.OpNone, Y: point("0 -1 0 1")}, true)
}

func TestFractionsOfManyDigits(t *testing.T) {
	long, other := "340282366920938463463374607431768211457", "123456789012345678901234567891"
	// x0 is at least long / other, and x1 at least long times x0.
	s := system(2, "0:"+other+" >= "+long, "0:-1 1:1/"+long+" >= 0")
	y := point(long + "/" + other + " " + long)
	best := api.Optimum{Value: raw("115792089237316195423570985008687907853950549399482440966384333222776666062849/" + other), X: point(long + "/" + other + " 115792089237316195423570985008687907853950549399482440966384333222776666062849/" + other), Y: y}
	checkIs(t, s, terms("1:1"), best, true)
	mixIs(t, s, long+"/"+other+" "+long, "1:1", "115792089237316195423570985008687907853950549399482440966384333222776666062849/"+other)
	best.Value = raw("115792089237316195423570985008687907853950549399482440966384333222776666062850/" + other)
	checkIs(t, s, terms("1:1"), best, false)
	best.X[1] = best.Value
	checkIs(t, s, terms("1:1"), best, false)
	refuted := with(s, 2, row("1:1 <= 115792089237316195423570985008687907853950549399482440966384333222776666062848/"+other))
	refutesIs(t, refuted, append(slices.Clone(y), raw("-1")), true)
	solved := with(s, 2, row("1:1 <= 115792089237316195423570985008687907853950549399482440966384333222776666062849/"+other))
	refutesIs(t, solved, append(slices.Clone(y), raw("-1")), false)
	rayIs(t, s, terms("1:-1/"+other), point("1 "+long), true)
	rayIs(t, s, terms("1:-1/"+other), point("1 340282366920938463463374607431768211456"), false)
}
