package simplex

import (
	"math/rand"
	"testing"

	"kerbside/api"
	"kerbside/dual"
	"kerbside/frac"
	"kerbside/linear"
)

// ints returns the row with these coefficients and this value.
func ints(kind, value int, l ...int) api.Row {
	w := api.Row{Kind: kind, Value: frac.Int(value)}
	for v, n := range l {
		if n != 0 {
			w.Terms = append(w.Terms, api.Term{Var: v, Coef: frac.Int(n)})
		}
	}
	return w
}

func TestWithoutPatience(t *testing.T) {
	// With the first variables from the start, the result is right, too. All rows have small values, or 0, so that swaps often make no progress.
	r := rand.New(rand.NewSource(7))
	list := func(n int) []int {
		l := make([]int, n)
		for i := range l {
			l[i] = r.Intn(5) - 2
		}
		return l
	}
	for i := range 4000 {
		s := api.System{N: 1 + i%8}
		for range r.Intn(10) {
			s.Rows = append(s.Rows, ints(r.Intn(api.RoKinds), (r.Intn(5)-2)*(i%2), list(s.N)...))
		}
		goal := ints(0, 0, list(s.N)...).Terms
		want, _ := Least(s, goal)
		table := newTable(s, goal)
		table.patience = -1
		o := table.optimum()
		if o.Kind == api.OpFound {
			o.Value, _ = linear.Value(goal, o.X)
		}
		if !dual.Check(s, goal, o) || o.Kind != want.Kind || !frac.Same(o.Value, want.Value) {
			t.Fatalf("without patience %v, goal %v, is %v, and otherwise %v", s, goal, o, want)
		}
	}
}

func TestSteps(t *testing.T) {
	// The common denominators of the columns, if all of them together are shorter than those of the rows.
	half, third := func(l []api.Term, v int) []api.Term {
		f, _ := frac.Of(1, 2)
		return append(l, api.Term{Var: v, Coef: f})
	}, func(l []api.Term, v int) []api.Term {
		f, _ := frac.Of(-2, 3)
		return append(l, api.Term{Var: v, Coef: f})
	}
	for i, c := range []struct {
		n    int
		rows [][]api.Term
		want []int
	}{
		{2, [][]api.Term{third(half(nil, 0), 1)}, []int{2, 3}}, {1, [][]api.Term{half(nil, 0), third(nil, 0)}, []int{1}}, {2, [][]api.Term{third(half(nil, 0), 1), half(third(nil, 0), 1)}, []int{1, 1}}, {3, [][]api.Term{third(half(nil, 0), 1), half(half(nil, 0), 2)}, []int{2, 3, 2}}, {2, [][]api.Term{ints(0, 0, 4, 6).Terms}, []int{1, 1}}, {0, nil, nil}, {1, nil, []int{1}}, {1, [][]api.Term{nil, half(nil, 0)}, []int{1}},
	} {
		s := api.System{N: c.n}
		for _, l := range c.rows {
			s.Rows = append(s.Rows, api.Row{Terms: l, Value: frac.Int(1)})
		}
		got := steps(s)
		if len(got) != len(c.want) {
			t.Errorf("%d: the steps are %v, want %v", i, got, c.want)
			continue
		}
		for v, n := range c.want {
			if got[v].far != nil || got[v].n != n {
				t.Errorf("%d: the steps are %v, want %v", i, got, c.want)
			}
		}
	}
}

func TestCarefulChoices(t *testing.T) {
	// The first head that is negative, and the first variable by which the goal falls, however little.
	s := api.System{N: 3, Rows: []api.Row{ints(api.RoLeast, -1, 1), ints(api.RoLeast, 1, 1, 1), ints(api.RoLeast, 1000, 1), ints(api.RoLeast, 2000, 0, 0, 1)}}
	table := newTable(s, ints(0, 0, 0, -1, -1000).Terms)
	if l := table.worst(true); l == nil || l.head != 4 {
		t.Errorf("the first negative head is that of %v", l)
	}
	if l := table.worst(false); l == nil || l.head != 6 {
		t.Errorf("the most negative head is that of %v", l)
	}
	if first, most := table.steepest(true), table.steepest(false); first != 1 || most != 2 {
		t.Errorf("the goal falls first by %d, and most by %d", first, most)
	}
}

func TestWorstComparesSizes(t *testing.T) {
	// Heads of -1000, -30 and -100/7 in lines of the sizes 200, 3 and 2: compared to these, -5, -10 and about -7.
	s := api.System{N: 2, Rows: []api.Row{ints(api.RoLeast, 1000, 100, 99), ints(api.RoLeast, 30, 1, 1), ints(api.RoLeast, 100, 7)}}
	if l := newTable(s, nil).worst(false); l == nil || l.head != 3 {
		t.Errorf("the worst line is %v", l)
	}
	// The goal falls by 100/11, 9 and 15 if a variable grows by 1, and a gap by 2, 1 and 3.
	s = api.System{N: 3, Rows: []api.Row{ints(api.RoMost, 5, 2, 1), ints(api.RoMost, 5, 1, 0, 3)}}
	goal := ints(0, 0, -1, -9, -15).Terms
	goal[0].Coef, _ = frac.Of(-100, 11)
	if at := newTable(s, goal).steepest(false); at != 1 {
		t.Errorf("the steepest variable is %d", at)
	}
}

func TestNothingFallsBelow0(t *testing.T) {
	// The costs of what can grow, while repair makes heads grow; and the heads while descend makes the goal fall, each by something tiny at least.
	r := rand.New(rand.NewSource(10))
	descents := 0
	for i := range 1500 {
		s := api.System{N: 2 + i%6}
		for range 3 + r.Intn(8) {
			l := make([]int, s.N)
			for v := range l {
				l[v] = r.Intn(7) - 3
			}
			s.Rows = append(s.Rows, ints(r.Intn(api.RoKinds), (r.Intn(30)-5*(i%4))*(i/6%2), l...))
		}
		table := newTable(s, ints(0, 0, 3, -2).Terms)
		if table.settle() != nil {
			continue
		}
		refuted := table.repair()
		for at, f := range table.costs {
			if table.free(at) && f.p.sign() < 0 {
				t.Fatalf("%v: the variable %d costs %v", s, at, f)
			}
		}
		for _, l := range table.lines {
			if table.costs[l.head].p.sign() != 0 {
				t.Fatalf("%v: the head %d costs %v", s, l.head, table.costs[l.head])
			}
		}
		if refuted != nil || table.descend() >= 0 {
			continue
		}
		descents++
		for _, l := range table.lines {
			if sign := l.rest.p.sign(); sign < 0 || sign == 0 && l.of(table.tiny).sign() < 0 {
				t.Fatalf("%v: a head is less than 0: %v", s, l)
			}
		}
	}
	if descents < 100 {
		t.Errorf("only %d descents", descents)
	}
}

func TestLinesAreShort(t *testing.T) {
	// The integers of a line have no common divisor, whatever was swapped; by is positive, and the parts ascend, are not 0, and are no heads.
	r := rand.New(rand.NewSource(8))
	for range 300 {
		s := api.System{N: 6}
		for range 8 {
			l := make([]int, 6)
			for v := range l {
				l[v] = (r.Intn(3) - 1) * (1 + r.Intn(1<<r.Intn(40)))
			}
			s.Rows = append(s.Rows, ints(r.Intn(api.RoKinds), r.Intn(1000), l...))
		}
		table := newTable(s, nil)
		for range 12 {
			l := table.lines[r.Intn(len(table.lines))]
			if len(l.parts) > 0 {
				table.swap(l, l.parts[r.Intn(len(l.parts))].at)
			}
			table.areShort(t)
		}
	}
}

func (t *table) areShort(test *testing.T) {
	test.Helper()
	heads := map[int]bool{}
	for _, l := range t.lines {
		heads[l.head] = true
	}
	for _, l := range t.lines {
		d, before := l.by, -1
		for _, p := range l.parts {
			if p.at <= before || p.factor.sign() == 0 || heads[p.at] {
				test.Fatalf("a line with a wrong part %v: %v", p, l)
			}
			d, before = divisor(p.factor, d), p.at
		}
		if l.by.sign() <= 0 || !d.isOne() {
			test.Fatalf("a line with the divisor %v: %v", d, l)
		}
	}
}
