package dual

import (
	"slices"

	"kerbside/api"
	"kerbside/frac"
	"kerbside/linear"
)

// multiplies reports whether y are multipliers of a right system.
func multiplies(y []api.Frac, s api.System) bool {
	wrong := func(f api.Frac) bool { return !frac.Right(f) }
	return len(y) == len(s.Rows) && !slices.ContainsFunc(y, wrong) && linear.Right(s)
}

// products are to be added: each coefficient is multiplied by the factor that has the number of its variable.
type products struct {
	coefs   []api.Term
	factors []api.Frac
}

func (p *products) add(coef, factor api.Frac) {
	p.coefs = append(p.coefs, api.Term{Var: len(p.factors), Coef: coef})
	p.factors = append(p.factors, factor)
}

// sum returns the sum of the products, none of whose coefficients is 0.
func (p *products) sum() api.Frac {
	value, _ := linear.Value(p.coefs, p.factors)
	return value
}

// share is a row that is not multiplied by 0: its multiplier, and those of its terms that have not been mixed yet.
type share struct {
	by   api.Frac
	rest []api.Term
}

// mix returns the mix of a right system with multipliers of it.
func mix(s api.System, y []api.Frac) ([]api.Term, api.Frac) {
	var shares []share
	var values products
	for i, r := range s.Rows {
		if frac.Sign(y[i]) == 0 {
			continue
		}
		shares = append(shares, share{y[i], r.Terms})
		if frac.Sign(r.Value) != 0 {
			values.add(r.Value, y[i])
		}
	}
	var l []api.Term
	for v := range s.N {
		if coef := mixed(shares, v); frac.Sign(coef) != 0 {
			l = append(l, api.Term{Var: v, Coef: coef})
		}
	}
	return l, values.sum()
}

// mixed returns the coefficient of a variable in the mix, after those of all variables before it.
//
// The terms of a variable are collected only when its turn comes, so that the products of a single one take room at a time.
func mixed(shares []share, v int) api.Frac {
	var p products
	for i := range shares {
		if w := &shares[i]; len(w.rest) > 0 && w.rest[0].Var == v {
			p.add(w.rest[0].Coef, w.by)
			w.rest = w.rest[1:]
		}
	}
	return p.sum()
}

// atMost reports whether no variable has a greater coefficient in a than in b; both are right.
func atMost(a, b []api.Term) bool {
	less := linear.Plus(b, linear.Times(a, frac.Int(-1)))
	return !slices.ContainsFunc(less, func(t api.Term) bool { return frac.Sign(t.Coef) < 0 })
}

// directions returns the system of the directions that lead from each solution of a system to others: its rows with the value 0.
func directions(s api.System) api.System {
	rows := make([]api.Row, len(s.Rows))
	for i, r := range s.Rows {
		rows[i] = api.Row{Terms: r.Terms, Kind: r.Kind, Value: frac.Int(0)}
	}
	return api.System{N: s.N, Rows: rows}
}
