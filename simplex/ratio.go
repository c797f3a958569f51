package simplex

// ratio is a fraction in lowest terms; q is positive.
type ratio struct{ p, q whole }

// shortened returns the fraction of p and q, which is positive.
func shortened(p, q whole) ratio {
	d := divisor(p, q)
	return ratio{p.over(d), q.over(d)}
}

// mixRatios returns (f x + g y) / by, where by is positive.
func (r *room) mixRatios(f whole, x ratio, g whole, y ratio, by whole) ratio {
	p, _ := r.mix(f.times(y.q), x.p, g.times(x.q), y.p, one())
	return shortened(p, x.q.times(y.q).times(by))
}

// compareQuotients returns -1, 0 or 1 if x / a is less than, equal to or greater than y / b, where a and b are positive.
func compareQuotients(x ratio, a whole, y ratio, b whole) int {
	return compareProducts(x.p, y.q.times(b), y.p, x.q.times(a))
}
