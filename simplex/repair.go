package simplex

// repair makes the table's point a solution (by the dual simplex algorithm). If there is none, it returns a line that contradicts itself.
func (t *table) repair() *line {
	t.costs = t.newCosts()
	for idle := 0; ; {
		l := t.worst(idle > t.patience)
		if l == nil {
			return nil
		}
		at := t.cheapest(l)
		if at < 0 {
			return l
		}
		idle++
		if t.costs[at].p.sign() > 0 {
			idle = 0
		}
		t.swap(l, at)
	}
}

// newCosts returns factors that are positive for all variables that can grow at the table's point. No swap of repair makes one negative: so the sum never falls, and a swap makes progress if it grows.
// They are close to the goal's factors, as far as these are positive: so the point that repair finds is often a best one already. But it is unlikely that two variables cost the same.
func (t *table) newCosts() []ratio {
	costs := make([]ratio, len(t.goal))
	for at := range costs {
		costs[at].q = one()
		if !t.free(at) {
			continue
		}
		costs[at].p = whole{n: spread(at)}
		if t.goal[at].p.sign() > 0 {
			costs[at] = t.room.mixRatios(whole{n: weight}, t.goal[at], one(), costs[at], one())
		}
	}
	for _, l := range t.lines {
		costs[l.head] = ratio{q: one()}
	}
	return costs
}

// weight is how much the goal counts in the costs.
const weight = 1 << 12

// spread returns a number from 1 to 1024; for different n these have little to do with each other.
func spread(n int) int {
	h := uint64(n+1) * 0x9e3779b97f4a7c15
	h = (h ^ h>>29) * 0xbf58476d1ce4e5b9
	return int(h>>54) + 1
}

// worst returns the line whose head is most negative at the table's point, compared to the size of the line; nil, if none is negative. If it is to be careful, it returns the line with the first head that is.
func (t *table) worst(careful bool) *line {
	var worst *line
	most := 0
	for _, l := range t.lines {
		if l.rest.p.sign() >= 0 {
			continue
		}
		size := -l.head
		if !careful {
			size = l.rest.p.log() - l.rest.q.log() - t.size(l)
		}
		if worst == nil || size > most {
			worst, most = l, size
		}
	}
	return worst
}

// size returns about 256 times the binary logarithm of the sum of the absolute values of by and of the factors of free variables.
func (t *table) size(l *line) int {
	_, n := l.by.top()
	for _, p := range l.parts {
		if t.free(p.at) {
			_, m := p.factor.top()
			n = max(n, m)
		}
	}
	const extra = 16 // bits, as the sum of many numbers is longer than each of them
	sum := uint(0)
	add := func(a whole) {
		top, m := a.top()
		sum += top >> min(extra+n-m, width-1)
	}
	add(l.by)
	for _, p := range l.parts {
		if t.free(p.at) {
			add(p.factor)
		}
	}
	top, m := whole{n: int(sum)}.top()
	return logOf(top, n+extra+m-width)
}

// cheapest returns the variable by which the head of a line can grow at the least cost; -1, if there is none.
func (t *table) cheapest(l *line) int {
	best := -1
	var gain whole
	for _, p := range l.parts {
		if p.factor.sign() < 0 || !t.free(p.at) {
			continue
		}
		if best < 0 || compareQuotients(t.costs[p.at], p.factor, t.costs[best], gain) < 0 {
			best, gain = p.at, p.factor
		}
	}
	return best
}
