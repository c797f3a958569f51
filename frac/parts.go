package frac

import (
	"cmp"

	"kerbside/api"
	"kerbside/big"
)

// The functions of this file take fractions and integers that are right; so package big returns no errors.

// sum returns the sum in lowest terms.
//
// Divisors are sought among the denominators, which are shorter than what is formed of them: what the sum can still be shortened by divides the divisor of both.
func sum(a, b api.Frac) api.Frac {
	if x, y, fit := smallPair(a, b); fit {
		return shortened(x.p*y.q+y.p*x.q, x.q*y.q)
	}
	g := common(a.Q, b.Q)
	q, s := divided(a.Q, g), divided(b.Q, g)
	p, _ := big.Add(times(a.P, s), times(b.P, q))
	h := common(p, g)
	return api.Frac{P: divided(p, h), Q: times(q, divided(b.Q, h))}
}

// product returns the product in lowest terms: only a numerator and the other one's denominator can have a common divisor.
func product(a, b api.Frac) api.Frac {
	if x, y, fit := smallPair(a, b); fit {
		return shortened(x.p*y.p, x.q*y.q)
	}
	g, h := common(a.P, b.Q), common(b.P, a.Q)
	return api.Frac{P: times(divided(a.P, g), divided(b.P, h)), Q: times(divided(a.Q, h), divided(b.Q, g))}
}

func compare(a, b api.Frac) int {
	if a.P.Sign != b.P.Sign {
		return cmp.Compare(a.P.Sign, b.P.Sign)
	}
	if x, y, fit := smallPair(a, b); fit {
		return cmp.Compare(x.p*y.q, y.p*x.q)
	}
	return big.Compare(times(a.P, b.Q), times(b.P, a.Q))
}

func times(a, b api.Big) api.Big {
	p, _ := big.Mul(a, b)
	return p
}

// divided returns a divided by b, which is not 0, rounded down.
func divided(a, b api.Big) api.Big {
	if isOne(b) {
		return copyOf(a)
	}
	q, _, _ := big.Div(a, b)
	return q
}

// common returns the greatest common divisor.
func common(a, b api.Big) api.Big {
	g, _ := big.Gcd(a, b)
	return g
}

func isOne(a api.Big) bool { return a.Sign == 1 && len(a.Digits) == 1 && a.Digits[0] == 1 }

// timesSign returns a times 1 or -1; it shares the digits of a.
func timesSign(a api.Big, sign int) api.Big { return api.Big{Sign: sign * a.Sign, Digits: a.Digits} }

// copyOf returns a with digits of its own.
func copyOf(a api.Big) api.Big {
	return api.Big{Sign: a.Sign, Digits: append([]int(nil), a.Digits...)}
}
