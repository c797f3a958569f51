package simplex

import (
	"math/bits"
	"slices"
)

// common returns the greatest common divisor of two integers that are not 0, by Euclid's algorithm; long ones leap over many of its steps at once (Lehmer's algorithm).
func common(a, b limbs) limbs {
	if a.compare(b) < 0 {
		a, b = b, a
	}
	a, b = slices.Clone(a), slices.Clone(b)
	var c, d limbs
	for len(b) > 1 {
		n := width*len(a) - bits.LeadingZeros(a[len(a)-1])
		l := leapOf(a.bits(n-leading), b.bits(n-leading))
		if l.v0 == 0 {
			_, r := a.over(b, c, d)
			a, b, d = b, r, a
			continue
		}
		c, d = mixture(c, l.u0, l.v0, a, b), mixture(d, l.u1, l.v1, a, b)
		a, b, c, d = c, d, a, b
	}
	if len(b) == 0 {
		return a
	}
	_, r := a.over(b, c, d)
	if len(r) == 0 {
		return b
	}
	return limbs{commonOne(b[0], r[0])}
}

// commonOne returns the greatest common divisor of two integers that are not 0, without divisions: the power of 2 apart, an even one can be halved, and of two odd ones the lesser one be taken from the other one.
func commonOne(x, y uint) uint {
	twos := bits.TrailingZeros(x | y)
	x >>= bits.TrailingZeros(x)
	for y != 0 && x != 1 {
		y >>= bits.TrailingZeros(y)
		x, y = min(x, y), max(x, y)-min(x, y)
	}
	return x << twos
}

const leading = 62 // bits that tell the first steps of Euclid's algorithm

// bits returns the leading bits of a from a bit on, of which there are at most 62.
func (a limbs) bits(from int) int {
	i, by := from/width, from%width
	return int(a.at(i)>>by | a.at(i+1)<<(width-by))
}

// leap is some steps of Euclid's algorithm: from a and b they lead to u0 a + v0 b and u1 a + v1 b.
type leap struct{ u0, v0, u1, v1 int }

// leapOf returns the first steps for all numbers a and b with the leading bits x and y, x at least y.
//
// What follows the leading bits makes a number of the algorithm, x or y here, greater or smaller by less than its v (its u is not greater, and has the other sign).
// So the steps are those of a and b as long as each number is certain not to be negative, and to be less than the one before.
// Then v is at most the square root of 2^62.
func leapOf(x, y int) leap {
	l := leap{1, 0, 0, 1}
	for y > 0 {
		q := x / y
		next := leap{l.u1, l.v1, l.u0 - q*l.u1, l.v0 - q*l.v1}
		x, y = y, x-q*y
		if y < max(next.v1, -next.v1) || x-y < max(next.v1-next.v0, next.v0-next.v1) {
			break
		}
		l = next
	}
	return l
}

// mixture returns u a + v b, which is not negative and less than a, where one of both factors is at most 0, and the other one at least 0; it uses d.
func mixture(d limbs, u, v int, a, b limbs) limbs {
	if v > 0 {
		a, b, u, v = b, a, v, u
	}
	d = cleared(d, max(len(a), len(b)))
	var plus, minus, borrow uint
	for i := range d {
		var low, take uint
		low, plus = multiply(a.at(i), uint(u), plus)
		take, minus = multiply(b.at(i), uint(-v), minus)
		d[i], borrow = bits.Sub(low, take, borrow)
	}
	return d.trim()
}
