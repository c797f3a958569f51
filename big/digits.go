package big

import (
	"cmp"
	"math/bits"
	"slices"
)

// The functions of this file calculate with integers that are not negative, as digits: the lowest one first, the last one not 0.

const (
	width = 20 // bits of a digit
	mask  = 1<<width - 1
	few   = 3 // so many digits are an int, and a sum of two such ints is one
)

// split returns the digits of an integer.
func split(m uint64) []int {
	d := make([]int, (bits.Len64(m)+width-1)/width)
	for i := range d {
		d[i] = int(m & mask)
		m >>= width
	}
	return d
}

// join returns the integer with few digits.
func join(d []int) int {
	n := 0
	for i := len(d) - 1; i >= 0; i-- {
		n = n<<width | d[i]
	}
	return n
}

// trim takes the digits 0 off the end.
func trim(d []int) []int {
	for len(d) > 0 && d[len(d)-1] == 0 {
		d = d[:len(d)-1]
	}
	return d
}

func compare(a, b []int) int {
	if len(a) != len(b) {
		return cmp.Compare(len(a), len(b))
	}
	for i := len(a) - 1; i >= 0; i-- {
		if a[i] != b[i] {
			return cmp.Compare(a[i], b[i])
		}
	}
	return 0
}

func add(a, b []int) []int {
	if len(a) < len(b) {
		a, b = b, a
	}
	s := make([]int, len(a)+1)
	copy(s, a)
	addTo(s, b, 1)
	return trim(s)
}

// subtract returns a - b, where b is at most a.
func subtract(a, b []int) []int {
	d := slices.Clone(a)
	addTo(d, b, -1)
	return trim(d)
}

// addTo adds b times a factor from -2^20 to 2^20 to d, which has at least as many digits, and returns the carry.
func addTo(d, b []int, factor int) int {
	carry := 0
	for i, x := range b {
		carry += d[i] + x*factor
		d[i] = carry & mask
		carry >>= width
	}
	for i := len(b); i < len(d) && carry != 0; i++ {
		carry += d[i]
		d[i] = carry & mask
		carry >>= width
	}
	return carry
}

// multiply adds up the products of digits before it carries: an int has room for 2^23 of them, and factors that are both longer would take 2^46 steps.
func multiply(a, b []int) []int {
	if len(a) > len(b) {
		a, b = b, a
	}
	p := make([]int, len(a)+len(b))
	for i, x := range a {
		to := p[i : i+len(b)]
		for k, y := range b {
			to[k] += x * y
		}
	}
	carry := 0
	for i, x := range p {
		carry += x
		p[i] = carry & mask
		carry >>= width
	}
	return trim(p)
}

// divide returns the quotient of a and b, which is not 0, and the remainder.
func divide(a, b []int) (q, r []int) {
	switch {
	case compare(a, b) < 0:
		return nil, slices.Clone(a)
	case len(a) <= few:
		x, y := join(a), join(b)
		return split(uint64(x / y)), split(uint64(x % y))
	case len(b) <= 2:
		q, n := divideBy(slices.Clone(a), join(b))
		return q, split(uint64(n))
	}
	return divideLong(a, b)
}

// divideBy divides d, in place, by an int of at most 40 bits, and returns the quotient and the remainder.
func divideBy(d []int, by int) ([]int, int) {
	rest := uint64(0)
	for i := len(d) - 1; i >= 0; i-- {
		rest = rest<<width | uint64(d[i])
		d[i] = int(rest / uint64(by))
		rest %= uint64(by)
	}
	return trim(d), int(rest)
}

// multiplyBy multiplies d, in place, by an int of at most 40 bits, and adds another one.
func multiplyBy(d []int, by, plus int) []int {
	for i, x := range d {
		plus += x * by
		d[i] = plus & mask
		plus >>= width
	}
	for plus > 0 {
		d = append(d, plus&mask)
		plus >>= width
	}
	return d
}

// divideLong divides a by b, which has at least two digits, and not more than a.
func divideLong(a, b []int) (q, r []int) {
	n := len(b)
	// Once the highest bit of the last digit of b is set, its last two digits tell each digit of the quotient, or 1 more.
	by := width - bits.Len(uint(b[n-1]))
	r, b = shift(a, by), shift(b, by)[:n]
	q = make([]int, len(a)-n+1)
	for i := len(q) - 1; i >= 0; i-- {
		q[i] = reduce(r[i:i+n+1], b)
	}
	return trim(q), trim(shiftBack(r[:n], by))
}

// reduce divides d, which has one digit more than b and is less than b times 2^20, by b; it leaves the remainder in d, and returns the quotient.
func reduce(d, b []int) int {
	n := len(b)
	q := (d[n]<<(2*width) | d[n-1]<<width | d[n-2]) / (b[n-1]<<width | b[n-2])
	// The first guess is the quotient, or 1 greater.
	if addTo(d, b, -q) < 0 {
		q--
		addTo(d, b, 1)
	}
	return q
}

// shift returns d times 2^by, where by is less than 20, with one digit more than d.
func shift(d []int, by int) []int {
	s := make([]int, len(d)+1)
	carry := 0
	for i, x := range d {
		carry |= x << by
		s[i] = carry & mask
		carry >>= width
	}
	s[len(d)] = carry
	return s
}

// shiftBack divides d, in place, by 2^by, where by is less than 20.
func shiftBack(d []int, by int) []int {
	carry := 0
	for i := len(d) - 1; i >= 0; i-- {
		carry = carry<<width | d[i]
		d[i] = carry >> by
		carry &= 1<<by - 1
	}
	return d
}
