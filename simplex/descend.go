package simplex

import "cmp"

// descend starts where the table's point is a solution, and makes it a best one (by the simplex algorithm): then it returns -1. If there is none, it returns a variable by whose growth the goal falls without end.
//
// First each head grows by something tiny: so hardly any head is 0, and almost each swap makes progress.
func (t *table) descend() int {
	for _, l := range t.lines {
		l.insert(t.tiny, l.by.times(whole{n: spread(l.head)}))
	}
	for idle := 0; ; {
		at := t.steepest(idle > t.patience)
		if at < 0 {
			return -1
		}
		l := t.nearest(at)
		if l == nil {
			return at
		}
		idle++
		if l.rest.p.sign() > 0 || l.of(t.tiny).sign() > 0 {
			idle = 0
		}
		t.swap(l, at)
	}
}

// steepest returns the variable by whose growth the goal falls most, compared to the greatest change of any variable by it; -1, if the goal falls by none. If it is to be careful, it returns the first one by which it falls.
func (t *table) steepest(careful bool) int {
	var changes []int
	if !careful {
		changes = t.changes()
	}
	best, most := -1, 0
	for at, f := range t.goal {
		if f.p.sign() >= 0 || !t.free(at) {
			continue
		}
		if careful {
			return at
		}
		if fall := f.p.log() - f.q.log() - changes[at]; best < 0 || fall > most {
			best, most = at, fall
		}
	}
	return best
}

// changes returns, for each variable, about 256 times the binary logarithm of the greatest change of any variable if it grows by 1.
func (t *table) changes() []int {
	l := make([]int, t.tiny+1)
	for _, m := range t.lines {
		by := m.by.log()
		for _, p := range m.parts {
			l[p.at] = max(l[p.at], p.factor.log()-by)
		}
	}
	return l
}

// nearest returns the line whose head is 0 first while a variable grows; nil, if there is none.
func (t *table) nearest(at int) *line {
	var best *line
	var fall whole
	for _, l := range t.lines {
		f := l.of(at).opposite()
		if f.sign() > 0 && (best == nil || t.sooner(l, f, best, fall)) {
			best, fall = l, f
		}
	}
	return best
}

// sooner reports whether the head of l is 0 before that of m, while they fall at the rates f and g; if both are at once, whether its head comes first.
func (t *table) sooner(l *line, f whole, m *line, g whole) bool {
	order := compareQuotients(l.rest, f, m.rest, g)
	if order == 0 {
		order = compareProducts(l.of(t.tiny), g, m.of(t.tiny), f)
	}
	return cmp.Or(order, cmp.Compare(l.head, m.head)) < 0
}
