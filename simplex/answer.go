package simplex

import (
	"kerbside/api"
	"kerbside/frac"
)

// fraction returns p / q, where q is positive.
func fraction(p, q whole) api.Frac {
	f, _ := frac.New(p.write(), q.write())
	return f
}

func zeros(n int) []api.Frac {
	l := make([]api.Frac, n)
	for i := range l {
		l[i] = frac.Int(0)
	}
	return l
}

// solution returns the table's point, which is a solution.
func (t *table) solution() []api.Frac {
	x := zeros(len(t.steps))
	for _, l := range t.lines {
		if l.head < len(x) {
			x[l.head] = fraction(l.rest.p.times(t.steps[l.head]), l.rest.q.times(l.by))
		}
	}
	return x
}

// ray returns the direction in which a variable grows, and the others but the heads stay as they are.
func (t *table) ray(at int) []api.Frac {
	d := zeros(len(t.steps))
	if at < len(d) {
		d[at] = fraction(t.steps[at], one())
	}
	for _, l := range t.lines {
		if l.head < len(d) {
			d[l.head] = fraction(l.of(at).times(t.steps[l.head]), l.by)
		}
	}
	return d
}

// proof returns the multipliers that prove the least value: the goal is that, and the sum of the gaps and variables times their factors, none of which makes it less.
func (t *table) proof() []api.Frac {
	y := make([]api.Frac, len(t.rules))
	for i := range y {
		y[i] = t.multiplier(i, t.goal[len(t.steps)+i])
	}
	return y
}

// refutation returns the multipliers of a line that contradicts itself: if rest is taken to be negative, it would be the sum of gaps and variables times factors, none of which makes that less than 0.
func (t *table) refutation(l *line) []api.Frac {
	y := zeros(len(t.rules))
	sign := whole{n: l.rest.p.sign()}
	for _, p := range append(l.parts, part{l.head, l.by.opposite()}) {
		if i := p.at - len(t.steps); i >= 0 {
			y[i] = t.multiplier(i, ratio{p.factor.times(sign), one()})
		}
	}
	return y
}

// multiplier returns the one of a row whose gap is multiplied by a factor.
func (t *table) multiplier(row int, factor ratio) api.Frac {
	w := t.rules[row]
	return fraction(factor.p.times(w.grade.p).times(whole{n: w.sign}), factor.q.times(w.grade.q))
}
