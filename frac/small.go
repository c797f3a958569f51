package frac

import (
	"math/bits"

	"kerbside/api"
	"kerbside/big"
)

// Most fractions of the engine have few digits; what is formed of two such ones is calculated with ints.

// small is a fraction whose parts are ints.
type small struct{ p, q int }

// smallOf returns a fraction as a small one, if its parts are right, and ints.
func smallOf(f api.Frac) (small, bool) {
	p, isP := big.Int(f.P)
	q, isQ := big.Int(f.Q)
	return small{p, q}, isP && isQ
}

// smallPair returns two fractions as small ones, if each product of their parts has at most 62 bits: so the sum of two such products is an int, too.
func smallPair(a, b api.Frac) (x, y small, fit bool) {
	x, isX := smallOf(a)
	y, isY := smallOf(b)
	return x, y, isX && isY && x.bits()+y.bits() <= 62
}

// bits returns the number of bits that each part has room in.
func (s small) bits() int { return bits.Len64(size(s.p) | size(s.q)) }

// shortened returns the fraction of p and q, which is positive.
func shortened(p, q int) api.Frac {
	g := int(divisor(size(p), size(q)))
	return api.Frac{P: big.Of(p / g), Q: big.Of(q / g)}
}

// size returns the absolute value, which for the least int is no int.
func size(n int) uint64 { return uint64(max(n, -n)) }

// divisor returns the greatest common divisor.
func divisor(x, y uint64) uint64 {
	for y != 0 {
		x, y = y, x%y
	}
	return x
}
