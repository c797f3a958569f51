package big

import (
	"math/bits"
	"slices"
)

// divisor returns the greatest common divisor of two integers that are not negative, by Euclid's algorithm; long ones leap over many of its steps at once (Lehmer's algorithm).
func divisor(a, b []int) []int {
	if compare(a, b) < 0 {
		a, b = b, a
	}
	if len(b) > few {
		a, b = shorten(slices.Clone(a), slices.Clone(b))
	}
	if len(b) == 0 {
		return slices.Clone(a)
	}
	if len(a) > few {
		_, r := divide(a, b)
		a, b = b, r
	}
	return split(divisorOfInts(uint64(join(a)), uint64(join(b))))
}

// divisorOfInts returns the greatest common divisor, of which x is not 0, without divisions: the power of 2 apart, an even number can be halved, and of two odd ones the lesser one be taken from the other one.
func divisorOfInts(x, y uint64) uint64 {
	twos := bits.TrailingZeros64(x | y)
	x >>= bits.TrailingZeros64(x)
	for y != 0 {
		y >>= bits.TrailingZeros64(y)
		x, y = min(x, y), max(x, y)-min(x, y)
	}
	return x << twos
}

// shorten changes a and b, of which b is at most a and has more than few digits, in place, to two others of Euclid's algorithm; the second one has few digits.
func shorten(a, b []int) ([]int, []int) {
	for len(b) > few {
		by := width - bits.Len(uint(a[len(a)-1]))
		l := leapOf(lead(a, len(a), by), lead(b, len(a), by))
		if l.v0 == 0 {
			_, r := divide(a, b)
			a, b = b, r
			continue
		}
		a, b = l.apply(a, b)
	}
	return a, b
}

// lead returns the highest 60 bits of d, if it has n digits and is shifted by by bits; digits that it does not have are 0.
func lead(d []int, n, by int) int {
	top := 0
	for i := n - 1; i >= n-few; i-- {
		top = top<<width | digit(d, i)
	}
	return top<<by | digit(d, n-few-1)>>(width-by)
}

func digit(d []int, i int) int {
	if i >= len(d) {
		return 0
	}
	return d[i]
}

// leap is some steps of Euclid's algorithm: from a and b they lead to u0 * a + v0 * b and u1 * a + v1 * b.
type leap struct{ u0, v0, u1, v1 int }

// leapOf returns the first steps for all numbers a and b with the leading bits x and y, x at least y.
//
// What follows the leading bits makes a number of the algorithm, x or y here, greater or smaller by less than its v (its u is not greater, and has the other sign).
// So the steps are those of a and b as long as each number is certain not to be negative, and to be less than the one before.
// Then v is at most the square root of 2^60.
func leapOf(x, y int) leap {
	l := leap{1, 0, 0, 1}
	for y > 0 {
		q := x / y
		next := leap{l.u1, l.v1, l.u0 - q*l.u1, l.v0 - q*l.v1}
		x, y = y, x-q*y
		if y < max(next.v1, -next.v1) || x-y < max(next.v1-next.v0, next.v0-next.v1) {
			break
		}
		l = next
	}
	return l
}

// apply makes the steps, in place.
func (l leap) apply(a, b []int) ([]int, []int) {
	carry0, carry1 := 0, 0
	for i, x := range a {
		y := digit(b, i)
		carry0 += l.u0*x + l.v0*y
		carry1 += l.u1*x + l.v1*y
		a[i] = carry0 & mask
		if i < len(b) {
			b[i] = carry1 & mask
		}
		carry0 >>= width
		carry1 >>= width
	}
	return trim(a), trim(b)
}
