package simplex

import (
	"cmp"
	"slices"

	"kerbside/api"
)

// part is a variable times an integer that is not 0.
type part struct {
	at     int
	factor whole
}

// line is an equation: a variable, its head, times by, which is positive, is the sum of rest and of the parts, which ascend by variable.
// by and the factors have no common divisor but 1: so they are as short as they can be.
type line struct {
	head  int
	by    whole
	parts []part
	rest  ratio
}

func (l *line) find(at int) (int, bool) {
	return slices.BinarySearchFunc(l.parts, at, func(p part, at int) int { return cmp.Compare(p.at, at) })
}

// of returns the factor of a variable.
func (l *line) of(at int) whole {
	if i, is := l.find(at); is {
		return l.parts[i].factor
	}
	return whole{}
}

// insert adds a part of a variable that has none.
func (l *line) insert(at int, factor whole) {
	i, _ := l.find(at)
	l.parts = slices.Insert(l.parts, i, part{at, factor})
}

// lead makes a variable of the parts the head.
func (l *line) lead(at int) {
	i, _ := l.find(at)
	a := l.parts[i].factor
	l.parts = slices.Delete(l.parts, i, i+1)
	l.insert(l.head, l.by.opposite())
	l.head, l.by = at, a.opposite()
	if a.sign() > 0 {
		l.turn()
	}
}

// turn multiplies both sides by -1.
func (l *line) turn() {
	l.by, l.rest.p = l.by.opposite(), l.rest.p.opposite()
	for i, p := range l.parts {
		l.parts[i].factor = p.factor.opposite()
	}
}

// rule is a row of a system. Its gap is by how much its terms differ from its Value in the direction that the row allows, times grade, which makes the coefficients integers.
// So the row holds where its gap is not negative; if it is shut (RoEqual), where the gap is 0.
type rule struct {
	sign  int // -1 for RoMost, otherwise 1
	grade ratio
	shut  bool
}

// table is a right system in equations, with a goal.
//
// Its variables are those of the system, each divided by its step, the gaps of the rows, and tiny, a positive number that is less than all others that play a part.
// Its lines say what their heads are; the other variables but tiny are 0 at the table's point, which is a solution if no head is negative there.
type table struct {
	steps []whole
	tiny  int
	rules []rule
	lines []*line
	goal  []ratio // the factor of each variable in the goal, 0 for heads
	costs []ratio // the same for what repair makes least
	spare []part
	room  room
	// After so many swaps without progress the first variables that will do are chosen (Bland's rule), until there is some: so swaps never go round for ever.
	patience int
}

// newTable returns the table of a right system, with the gaps of its rows as heads, and a goal.
func newTable(s api.System, goal []api.Term) *table {
	t := &table{steps: steps(s), tiny: s.N + len(s.Rows), patience: 20}
	for _, r := range s.Rows {
		t.add(r)
	}
	t.goal = slices.Repeat([]ratio{{q: one()}}, t.tiny+1)
	for _, g := range goal {
		t.goal[g.Var] = t.inSteps(g)
	}
	return t
}

// steps returns numbers by which the variables can be divided, so that the lines have short integers.
//
// A row times the common denominator of its terms has whole coefficients; but with many long denominators these are very long. If there are more variables than rows, the common denominators of what each variable is multiplied by are shorter.
func steps(s api.System) []whole {
	l := slices.Repeat([]whole{one()}, s.N)
	terms := make([]int, s.N)
	rows, columns := 0, 0 // bits of all denominators, if they are the common ones
	for _, r := range s.Rows {
		all := one()
		for _, t := range r.Terms {
			q := read(t.Coef.Q)
			all, l[t.Var] = multiple(all, q), multiple(l[t.Var], q)
			terms[t.Var]++
		}
		rows += all.bits() * len(r.Terms)
	}
	for v, all := range l {
		columns += all.bits() * terms[v]
	}
	if rows <= columns {
		return slices.Repeat([]whole{one()}, s.N)
	}
	return l
}

// inSteps returns the coefficient of a term where its variable is divided by its step.
func (t *table) inSteps(u api.Term) ratio {
	q := read(u.Coef.Q)
	d := divisor(t.steps[u.Var], q)
	return ratio{read(u.Coef.P).times(t.steps[u.Var].over(d)), q.over(d)}
}

// add adds a row.
func (t *table) add(r api.Row) {
	w := rule{sign: 1, shut: r.Kind == api.RoEqual}
	if r.Kind == api.RoMost {
		w.sign = -1
	}
	l := &line{head: len(t.steps) + len(t.rules), by: one()}
	l.parts, w.grade = t.integers(r.Terms, w.sign)
	l.rest = shortened(read(r.Value.P).times(w.grade.p).times(whole{n: -w.sign}), read(r.Value.Q).times(w.grade.q))
	t.rules = append(t.rules, w)
	t.lines = append(t.lines, l)
}

// integers returns right terms times a sign and a positive fraction that makes their coefficients integers without a common divisor.
func (t *table) integers(l []api.Term, sign int) ([]part, ratio) {
	coefs := make([]ratio, len(l))
	p, q := one(), whole{}
	for i, u := range l {
		coefs[i] = t.inSteps(u)
		p = multiple(p, coefs[i].q)
	}
	parts := make([]part, len(l))
	for i, f := range coefs {
		parts[i] = part{l[i].Var, f.p.times(p.over(f.q))}
		q = divisor(parts[i].factor, q)
	}
	if len(l) == 0 {
		q = one()
	}
	for i, n := range parts {
		parts[i].factor = n.factor.over(q).times(whole{n: sign})
	}
	return parts, ratio{p, q}
}

// shut reports whether a variable is the gap of a row RoEqual.
func (t *table) shut(at int) bool {
	n := len(t.steps)
	return n <= at && at < t.tiny && t.rules[at-n].shut
}

// free reports whether a variable can be more than 0 at a solution.
func (t *table) free(at int) bool { return at < t.tiny && !t.shut(at) }
