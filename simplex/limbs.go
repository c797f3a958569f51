package simplex

import (
	"cmp"
	"math/bits"
)

// limbs are an integer that is not negative: 64 bits each, the lowest ones first, the last one not 0.
// Where a function says that it uses d, it writes to the memory of d, which must not be that of another argument.
type limbs []uint

const width = 64 // bits of a limb

// cleared returns n limbs 0; it uses d.
func cleared(d limbs, n int) limbs {
	if cap(d) < n {
		return make(limbs, n, 2*n)
	}
	d = d[:n]
	clear(d)
	return d
}

// trim takes the limbs 0 off the end.
func (a limbs) trim() limbs {
	for len(a) > 0 && a[len(a)-1] == 0 {
		a = a[:len(a)-1]
	}
	return a
}

func (a limbs) compare(b limbs) int {
	if len(a) != len(b) {
		return cmp.Compare(len(a), len(b))
	}
	for i := len(a) - 1; i >= 0; i-- {
		if a[i] != b[i] {
			return cmp.Compare(a[i], b[i])
		}
	}
	return 0
}

// plus returns a + b; it uses d.
func (a limbs) plus(b, d limbs) limbs {
	d = cleared(d, max(len(a), len(b))+1)
	copy(d, a)
	carry := uint(0)
	for i := range d {
		d[i], carry = bits.Add(d[i], b.at(i), carry)
	}
	return d.trim()
}

// minus returns a - b, where b is at most a; it uses d.
func (a limbs) minus(b, d limbs) limbs {
	d = cleared(d, len(a))
	borrow := uint(0)
	for i, x := range a {
		d[i], borrow = bits.Sub(x, b.at(i), borrow)
	}
	return d.trim()
}

func (a limbs) at(i int) uint {
	if i >= len(a) {
		return 0
	}
	return a[i]
}

// times returns a b; it uses d.
func (a limbs) times(b, d limbs) limbs {
	d = cleared(d, len(a)+len(b))
	for i, x := range a {
		d[i+len(b)] = addProduct(d[i:i+len(b)], b, x)
	}
	return d.trim()
}

// addProduct adds b times a factor to d, which has as many limbs, in place, and returns the carry.
func addProduct(d, b limbs, factor uint) uint {
	carry := uint(0)
	for i, x := range b {
		low, high := multiply(x, factor, carry)
		d[i], carry = bits.Add(d[i], low, 0)
		carry += high
	}
	return carry
}

// takeProduct subtracts b times a factor from d, which has as many limbs, in place, and returns what was borrowed.
func takeProduct(d, b limbs, factor uint) uint {
	borrow := uint(0)
	for i, x := range b {
		low, high := multiply(x, factor, borrow)
		d[i], borrow = bits.Sub(d[i], low, 0)
		borrow += high
	}
	return borrow
}

// multiply returns x y + carry as its lower and its higher limb.
func multiply(x, y, carry uint) (low, high uint) {
	high, low = bits.Mul(x, y)
	low, c := bits.Add(low, carry, 0)
	return low, high + c
}

// over returns the quotient of a and b, which is not 0, and the remainder; it uses d and e.
func (a limbs) over(b, d, e limbs) (q, r limbs) {
	n := len(b)
	if a.compare(b) < 0 {
		return d[:0], append(e[:0], a...)
	}
	q = cleared(d, len(a)-n+1)
	if n == 1 {
		rest := uint(0)
		for i := len(a) - 1; i >= 0; i-- {
			q[i], rest = bits.Div(rest, a[i], b[0])
		}
		return q.trim(), append(e[:0], rest).trim()
	}
	// Once the highest bit of b is set, its last two limbs tell each limb of the quotient, or 1 more.
	by := bits.LeadingZeros(b[n-1])
	r = cleared(e, len(a)+1+n)
	r, b = shift(r[:len(a)+1], a, by), shift(r[len(a)+1:], b, by)
	for i := len(q) - 1; i >= 0; i-- {
		q[i] = reduce(r[i:i+n+1], b)
	}
	return q.trim(), shiftBack(r[:n], by).trim()
}

// reduce divides d, which has one limb more than b and is less than b times 2^64, by b; it leaves the remainder in all limbs but the last one, and returns the quotient.
func reduce(d, b limbs) uint {
	n := len(b)
	q := guess(d[n], d[n-1], d[n-2], b[n-1], b[n-2])
	if takeProduct(d[:n], b, q) > d[n] {
		q--
		carry := uint(0)
		for i, x := range b {
			d[i], carry = bits.Add(d[i], x, carry)
		}
	}
	return q
}

// guess returns the quotient of numbers of which these are the highest three and two limbs, or 1 more (Knuth); the highest bit of b1 is set.
func guess(d2, d1, d0, b1, b0 uint) uint {
	if d2 >= b1 {
		return ^uint(0)
	}
	q, r := bits.Div(d2, d1, b1)
	if high, low := bits.Mul(q, b0); high > r || high == r && low > d0 {
		q--
	}
	return q
}

// shift puts a times 2^by, where by is less than 64, into d, which has as many limbs, or one more.
func shift(d, a limbs, by int) limbs {
	before := uint(0)
	for i := range d {
		x := a.at(i)
		d[i] = x<<by | before>>(width-by)
		before = x
	}
	return d
}

// shiftBack divides a by 2^by, where by is less than 64, in place.
func shiftBack(a limbs, by int) limbs {
	before := uint(0)
	for i := len(a) - 1; i >= 0; i-- {
		x := a[i]
		a[i] = x>>by | before<<(width-by)
		before = x
	}
	return a
}
