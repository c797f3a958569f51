package simplex

import "math"

// swap makes a variable the head of a line, and puts the line's parts in its place everywhere else.
func (t *table) swap(l *line, at int) {
	l.lead(at)
	for _, m := range t.lines {
		if m != l {
			t.replace(m, l)
		}
	}
	t.replaceIn(t.goal, l)
	t.replaceIn(t.costs, l)
}

// replaceIn puts what a line says in the place of its head in a sum of variables, of which factors are the factors.
func (t *table) replaceIn(factors []ratio, l *line) {
	if len(factors) == 0 || factors[l.head].p.sign() == 0 {
		return
	}
	f := shortened(factors[l.head].p, factors[l.head].q.times(l.by))
	factors[l.head] = ratio{q: one()}
	for _, p := range l.parts {
		factors[p.at] = t.room.mixRatios(f.q, factors[p.at], f.p, ratio{p.factor, one()}, f.q)
	}
}

// replace puts what m says in the place of its head in l, if l has that.
//
// f times l, and a times m, are added so that the head of m drops out, where f and a have no common divisor.
// What divides all integers of this sum is prime to f, as a prime divisor of both would divide a, or all integers of m. So it divides l.by, and is sought from there.
func (t *table) replace(l, m *line) {
	i, is := l.find(m.head)
	if !is {
		return
	}
	d := divisor(l.parts[i].factor, m.by)
	f, a := m.by.over(d), l.parts[i].factor.over(d)
	by := l.by
	for {
		rest := t.merge(l, m, f, a, by)
		if rest.sign() == 0 {
			break
		}
		by = divisor(rest, by)
	}
	l.by = l.by.over(by).times(f)
	l.parts, t.spare = t.spare, l.parts
	l.rest = t.room.mixRatios(f, l.rest, a, m.rest, by)
}

// merge puts the sum of f times the parts of l, but for the head of m, and of a times those of m, divided by an integer, into spare. It stops where the division leaves a remainder, and returns that.
func (t *table) merge(l, m *line, f, a, by whole) whole {
	out := t.spare[:0]
	x, y := l.parts, m.parts
	same := f.isOne() && by.isOne()
	for len(x) > 0 || len(y) > 0 {
		p, q := first(x), first(y)
		if p.at <= q.at {
			x = x[1:]
		}
		if q.at <= p.at {
			y = y[1:]
		}
		switch {
		case q.at < p.at:
			p = part{at: q.at}
		case p.at == m.head:
			continue
		case p.at < q.at && same:
			out = append(out, p)
			continue
		case p.at < q.at:
			q.factor = whole{}
		}
		n, rest := t.room.mix(f, p.factor, a, q.factor, by)
		if rest.sign() != 0 {
			return rest
		}
		if n.sign() != 0 {
			out = append(out, part{p.at, n})
		}
	}
	t.spare = out
	return whole{}
}

// first returns the first one of parts; what comes after the last one, if there is none.
func first(l []part) part {
	if len(l) == 0 {
		return part{at: math.MaxInt}
	}
	return l[0]
}
