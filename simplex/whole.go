package simplex

import (
	"cmp"
	"math"
	"math/bits"
	"slices"

	"kerbside/api"
)

// whole is an integer: n, if far is nil; otherwise n is its sign, and far its absolute value, which is too great for an int.
// The numbers of most systems are ints, and calculations with these take far less time than those of package frac.
type whole struct {
	n   int
	far *limbs
}

func one() whole { return whole{n: 1} }

// wholeOf returns the integer with a sign and an absolute value, whose memory it does not share.
func wholeOf(sign int, size limbs) whole {
	switch {
	case len(size) == 0:
		return whole{}
	case len(size) == 1 && size[0] <= math.MaxInt:
		return whole{n: sign * int(size[0])}
	}
	size = slices.Clone(size)
	return whole{sign, &size}
}

// size returns the absolute value; that of an int is put into room.
func (a whole) size(room *[1]uint) limbs {
	if a.far != nil {
		return *a.far
	}
	room[0] = distance(a.n)
	return limbs(room[:]).trim()
}

// distance returns the absolute value of an int.
func distance(n int) uint { return uint(max(n, -n)) }

func (a whole) sign() int { return cmp.Compare(a.n, 0) }

func (a whole) isOne() bool { return a.n == 1 && a.far == nil }

func (a whole) opposite() whole { return whole{-a.n, a.far} }

func (a whole) times(b whole) whole {
	var r room
	product, _ := r.mix(a, b, whole{}, whole{}, one())
	return product
}

// over returns the quotient of a and a positive divisor of it.
func (a whole) over(b whole) whole {
	var r room
	quotient, _ := r.mix(a, one(), whole{}, whole{}, b)
	return quotient
}

// divisor returns the greatest common divisor of two integers.
func divisor(a, b whole) whole {
	switch {
	case a.n == 0:
		return whole{b.sign() * b.n, b.far}
	case b.n == 0:
		return whole{a.sign() * a.n, a.far}
	case a.far == nil && b.far == nil:
		return whole{n: int(commonOne(distance(a.n), distance(b.n)))}
	}
	var x, y [1]uint
	return wholeOf(1, common(a.size(&x), b.size(&y)))
}

// multiple returns the least common multiple of two positive integers.
func multiple(a, b whole) whole {
	if b.isOne() {
		return a
	}
	return a.times(b.over(divisor(a, b)))
}

// compareProducts returns -1, 0 or 1 if a b is less than, equal to or greater than c d.
func compareProducts(a, b, c, d whole) int {
	var r room
	difference, _ := r.mix(a, b, c.opposite(), d, one())
	return difference.sign()
}

// top returns the highest 64 bits of the absolute value of an integer that is not 0, from the first one that is set on, and the number of all its bits.
func (a whole) top() (uint, int) {
	var x [1]uint
	size := a.size(&x)
	last := len(size) - 1
	n := bits.Len(size[last])
	top := size[last] << (width - n)
	if last > 0 {
		top |= size[last-1] >> n
	}
	return top, last*width + n
}

// bits returns the number of bits of an integer that is not 0, but the first one.
func (a whole) bits() int {
	_, n := a.top()
	return n - 1
}

// log returns about 256 times the binary logarithm of the absolute value of an integer that is not 0.
func (a whole) log() int { return logOf(a.top()) }

// logOf returns about 256 times the binary logarithm of a number of n bits with these highest ones.
func logOf(top uint, n int) int { return n<<8 + int(top<<1>>(width-8)) }

const digit = 20 // bits of a digit of api.Big

// read returns the value of a right integer of package big.
func read(a api.Big) whole {
	size := make(limbs, len(a.Digits)*digit/width+1)
	for i, d := range a.Digits {
		at, by := i*digit/width, i*digit%width
		size[at] |= uint(d) << by
		if by > width-digit {
			size[at+1] |= uint(d) >> (width - by)
		}
	}
	return wholeOf(a.Sign, size.trim())
}

// write returns the right integer of package big with a value.
func (a whole) write() api.Big {
	if a.n == 0 {
		return api.Big{}
	}
	var x [1]uint
	size := a.size(&x)
	_, n := a.top()
	b := api.Big{Sign: a.sign(), Digits: make([]int, (n+digit-1)/digit)}
	for i := range b.Digits {
		at, by := i*digit/width, i*digit%width
		b.Digits[i] = int((size[at]>>by | size.at(at+1)<<(width-by)) & (1<<digit - 1))
	}
	return b
}
