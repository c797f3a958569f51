package simplex

import (
	"math"
	"math/bits"
)

// room is memory for what comes about while long integers are calculated.
type room struct{ p, q, sum, quotient, rest limbs }

// mix returns the quotient of f a + g b and by, which is positive, rounded towards 0, and the remainder.
func (r *room) mix(f, a, g, b, by whole) (quotient, rest whole) {
	if f.far == nil && a.far == nil && g.far == nil && b.far == nil && by.far == nil {
		n, is := mixInts(f.n, a.n, g.n, b.n)
		switch {
		case is && by.n == 1:
			return whole{n: n}, whole{}
		case is:
			return whole{n: n / by.n}, whole{n: n % by.n}
		}
	}
	sign, sum := r.mixFar(f, a, g, b)
	if by.isOne() {
		return wholeOf(sign, sum), whole{}
	}
	var x [1]uint
	r.quotient, r.rest = sum.over(by.size(&x), r.quotient, r.rest)
	return wholeOf(sign, r.quotient), wholeOf(sign, r.rest)
}

// mixInts returns f a + g b, and whether it is an int, and no product too great.
func mixInts(f, a, g, b int) (int, bool) {
	p, isP := multiplyInts(f, a)
	q, isQ := multiplyInts(g, b)
	s := p + q
	return s, isP && isQ && (s < p) == (q < 0) && s != math.MinInt
}

func multiplyInts(a, b int) (int, bool) {
	if int(int32(a)) == a && int(int32(b)) == b {
		return a * b, true
	}
	high, low := bits.Mul(distance(a), distance(b))
	return a * b, high == 0 && low <= math.MaxInt
}

// mixFar returns the sign and the absolute value of f a + g b.
func (r *room) mixFar(f, a, g, b whole) (int, limbs) {
	var w, x, y, z [1]uint
	r.p = f.size(&w).times(a.size(&x), r.p)
	r.q = g.size(&y).times(b.size(&z), r.q)
	sign, other := f.sign()*a.sign(), g.sign()*b.sign()
	switch {
	case other == 0:
		return sign, r.p
	case sign == 0:
		return other, r.q
	case sign == other:
		r.sum = r.p.plus(r.q, r.sum)
	case r.p.compare(r.q) >= 0:
		r.sum = r.p.minus(r.q, r.sum)
	default:
		r.sum = r.q.minus(r.p, r.sum)
		sign = other
	}
	return sign, r.sum
}
