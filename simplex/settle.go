package simplex

import "slices"

// settle swaps all shut gaps out of the heads: so they are 0 at each point of the table from then on. If that cannot be, it returns a line that contradicts itself.
func (t *table) settle() *line {
	for {
		l := t.shortest()
		if l == nil {
			return nil
		}
		at := t.rarest(l)
		if at >= 0 {
			t.swap(l, at)
			continue
		}
		if l.rest.p.sign() != 0 {
			return l
		}
		// The gap is 0 because those of other rows are.
		t.lines = slices.DeleteFunc(t.lines, func(m *line) bool { return m == l })
	}
}

// shortest returns the shortest line whose head is shut, if there is one.
func (t *table) shortest() *line {
	var best *line
	for _, l := range t.lines {
		if t.shut(l.head) && (best == nil || len(l.parts) < len(best.parts)) {
			best = l
		}
	}
	return best
}

// rarest returns the free variable of a line that the fewest lines have, so that a swap changes few lines; -1, if there is none.
func (t *table) rarest(l *line) int {
	if !slices.ContainsFunc(l.parts, func(p part) bool { return t.free(p.at) }) {
		return -1
	}
	lines := make([]int, t.tiny+1)
	for _, m := range t.lines {
		for _, p := range m.parts {
			lines[p.at]++
		}
	}
	best := -1
	for _, p := range l.parts {
		if t.free(p.at) && (best < 0 || lines[p.at] < lines[best]) {
			best = p.at
		}
	}
	return best
}
