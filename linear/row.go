package linear

import (
	"slices"

	"kerbside/api"
	"kerbside/frac"
)

// rightRow reports whether a row is right for n variables.
func rightRow(r api.Row, n int) bool {
	return 0 <= r.Kind && r.Kind < api.RoKinds && frac.Right(r.Value) && RightTerms(r.Terms, n)
}

// canSolve reports whether a fraction can be the value of a variable in a solution.
func canSolve(f api.Frac) bool { return frac.Right(f) && frac.Sign(f) >= 0 }

// holds reports whether a row holds at x; both are right.
func holds(r api.Row, x []api.Frac) bool {
	order := frac.Compare(value(r.Terms, x), r.Value)
	switch r.Kind {
	case api.RoLeast:
		return order >= 0
	case api.RoMost:
		return order <= 0
	default:
		return order == 0
	}
}

// value returns the value of terms at x; both are right, so package frac returns no errors.
//
// It adds the sums of both halves, because a sum of many terms can have many digits: so only few of the sums do.
func value(l []api.Term, x []api.Frac) api.Frac {
	switch n := len(l); n {
	case 0:
		return frac.Int(0)
	case 1:
		product, _ := frac.Mul(l[0].Coef, x[l[0].Var])
		return product
	default:
		sum, _ := frac.Add(value(l[:n/2], x), value(l[n/2:], x))
		return sum
	}
}

// copyOf returns a term with digits of its own.
func copyOf(t api.Term) api.Term {
	return api.Term{Var: t.Var, Coef: api.Frac{P: copyOfBig(t.Coef.P), Q: copyOfBig(t.Coef.Q)}}
}

func copyOfBig(a api.Big) api.Big {
	return api.Big{Sign: a.Sign, Digits: slices.Clone(a.Digits)}
}

func all[T any](l []T, is func(T) bool) bool {
	return !slices.ContainsFunc(l, func(e T) bool { return !is(e) })
}
