package span_test

import (
	"math"
	gobig "math/big"
	"math/bits"
	"math/rand"
	"slices"
	"strconv"
	"strings"
	"testing"

	"kerbside/api"
	"kerbside/linear"
	"kerbside/span"
)

const top = 1048575 // the greatest digit

// ofInt returns the right big integer with a value, by the definition.
func ofInt(x *gobig.Int) api.Big {
	a := api.Big{Sign: x.Sign()}
	for rest := new(gobig.Int).Abs(x); rest.Sign() > 0; rest.Rsh(rest, 20) {
		a.Digits = append(a.Digits, int(new(gobig.Int).And(rest, gobig.NewInt(top)).Int64()))
	}
	return a
}

// of returns the right fraction with a value, by the definition.
func of(x *gobig.Rat) api.Frac { return api.Frac{P: ofInt(x.Num()), Q: ofInt(x.Denom())} }

// ratOf returns the value of a right fraction.
func ratOf(f api.Frac) *gobig.Rat {
	value := func(a api.Big) *gobig.Int {
		n := new(gobig.Int)
		for _, d := range slices.Backward(a.Digits) {
			n.Add(n.Lsh(n, 20), gobig.NewInt(int64(d)))
		}
		return n.Mul(n, gobig.NewInt(int64(a.Sign)))
	}
	return new(gobig.Rat).SetFrac(value(f.P), value(f.Q))
}

// raw returns the fraction with the parts of a text, right or not: of 1 or 2/4, for example.
func raw(s string) api.Frac {
	p, q, is := strings.Cut(s, "/")
	if !is {
		q = "1"
	}
	number := func(s string) api.Big {
		n, is := new(gobig.Int).SetString(s, 10)
		if !is {
			panic("no number: " + s)
		}
		return ofInt(n)
	}
	return api.Frac{P: number(p), Q: number(q)}
}

// point returns the fractions with a text.
func point(s string) []api.Frac {
	var x []api.Frac
	for _, field := range strings.Fields(s) {
		x = append(x, raw(field))
	}
	return x
}

// terms returns the terms with a text, right or not: of 0:2 2:-1/3, for example.
func terms(s string) []api.Term {
	var l []api.Term
	for _, field := range strings.Fields(s) {
		v, coef, _ := strings.Cut(field, ":")
		n, e := strconv.Atoi(v)
		if e != nil {
			panic(e)
		}
		l = append(l, api.Term{Var: n, Coef: raw(coef)})
	}
	return l
}

var signs = []string{">=", "<=", "=="}

// row returns the row with a text, right or not: of 0:2 2:-1/3 >= 1, for example.
func row(s string) api.Row {
	for kind, sign := range signs {
		if l, value, is := strings.Cut(s, sign); is {
			return api.Row{Terms: terms(l), Kind: kind, Value: raw(strings.TrimSpace(value))}
		}
	}
	panic("no row: " + s)
}

// system returns the system of n variables with the rows of a text, a line each.
func system(n int, rows string) api.System {
	s := api.System{N: n}
	for _, text := range strings.Split(rows, "\n") {
		if strings.TrimSpace(text) != "" {
			s.Rows = append(s.Rows, row(text))
		}
	}
	return s
}

// with returns a system with further rows.
func with(s api.System, more ...api.Row) api.System {
	return api.System{N: s.N, Rows: append(slices.Clone(s.Rows), more...)}
}

func equalBig(a, b api.Big) bool { return a.Sign == b.Sign && slices.Equal(a.Digits, b.Digits) }

func equal(a, b api.Frac) bool { return equalBig(a.P, b.P) && equalBig(a.Q, b.Q) }

func equalAll(x, y []api.Frac) bool { return slices.EqualFunc(x, y, equal) }

func equalOptima(a, b api.Optimum) bool {
	return a.Kind == b.Kind && equal(a.Value, b.Value) && equalAll(a.X, b.X) && equalAll(a.Y, b.Y) && equalAll(a.Ray, b.Ray)
}

func equalRanges(a, b api.Range) bool {
	return equalOptima(a.Least, b.Least) && equalOptima(a.Most, b.Most)
}

func equalBounds(a, b api.Bounds) bool {
	return a.Low == b.Low && a.High == b.High && equal(a.Least, b.Least) && equal(a.Most, b.Most)
}

func show(l []api.Term) string {
	var s []string
	for _, t := range l {
		s = append(s, strconv.Itoa(t.Var)+":"+showFrac(t.Coef))
	}
	return strings.Join(s, " ")
}

func showFrac(f api.Frac) string {
	if f.Q.Sign == 0 {
		return "-"
	}
	return ratOf(f).RatString()
}

func showAll(x []api.Frac) string {
	var l []string
	for _, f := range x {
		l = append(l, showFrac(f))
	}
	return "(" + strings.Join(l, " ") + ")"
}

func showSystem(s api.System) string {
	text := strconv.Itoa(s.N) + " variables"
	for i, w := range s.Rows {
		if i == 30 {
			text += "; and others"
			break
		}
		text += "; " + showRow(w)
	}
	return text
}

func showRow(w api.Row) string {
	sign := "?"
	if 0 <= w.Kind && w.Kind < len(signs) {
		sign = signs[w.Kind]
	}
	return show(w.Terms) + " " + sign + " " + showFrac(w.Value)
}

func showOptimum(o api.Optimum) string {
	return "kind " + strconv.Itoa(o.Kind) + ", value " + showFrac(o.Value) + ", X " + showAll(o.X) + ", Y " + showAll(o.Y) + ", ray " + showAll(o.Ray)
}

// showBounds returns a text of bounds: least..most, without what there is not.
func showBounds(b api.Bounds) string {
	text := ".."
	if b.Low {
		text = showFrac(b.Least) + text
	}
	if b.High {
		text += showFrac(b.Most)
	}
	return text
}

// tiny is a fraction that hardly differs from 0.
const tiny = "1/1000000000000000000000000000000"

// rangeIs checks all that the functions say about a goal over a system: want is least..most, without what there is not, or none, if there is no solution. It returns the range.
func rangeIs(t *testing.T, s api.System, goal []api.Term, want string) api.Range {
	t.Helper()
	r, e := span.Of(s, goal)
	b := span.Bounds(r)
	if e == api.ErrUnsat {
		if want != "none" || !equalRanges(r, api.Range{}) || span.Check(s, goal, r) {
			t.Fatalf("%s, goal %s: there is no solution, and the range is %s; %s; want %s", showSystem(s), show(goal), showOptimum(r.Least), showOptimum(r.Most), want)
		}
	} else if got := showBounds(b); got != want || e != api.OK || !span.Check(s, goal, r) {
		t.Fatalf("%s, goal %s: the range is %s, error %d, want %s; Check says %t of %s; %s", showSystem(s), show(goal), got, e, want, span.Check(s, goal, r), showOptimum(r.Least), showOptimum(r.Most))
	}
	if !b.Low && !equal(b.Least, api.Frac{}) || !b.High && !equal(b.Most, api.Frac{}) {
		t.Fatalf("%s, goal %s: a bound that there is not is %s, %s", showSystem(s), show(goal), showFrac(b.Least), showFrac(b.Most))
	}
	least, most, _ := strings.Cut(want, "..")
	certainIs(t, s, goal, least, least != "" && least == most && want != "none")
	for _, bound := range []string{least, most} {
		for _, by := range point("-" + tiny + " 0 " + tiny) {
			value := ratOf(by)
			if bound != "" && bound != "none" {
				value.Add(value, ratOf(raw(bound)))
			}
			impliedNear(t, s, goal, want, value)
		}
	}
	return r
}

// certainIs checks what Certain says.
func certainIs(t *testing.T, s api.System, goal []api.Term, value string, want bool) {
	t.Helper()
	f, is := span.Certain(s, goal)
	if is != want || is && !equal(f, raw(value)) || !is && !equal(f, api.Frac{}) {
		t.Fatalf("%s, goal %s: Certain says %s, %t, want %s, %t", showSystem(s), show(goal), showFrac(f), is, value, want)
	}
}

// impliedIs checks what Implied says of a right row.
func impliedIs(t *testing.T, s api.System, w api.Row, want bool) {
	t.Helper()
	if is, e := span.Implied(s, w); is != want || e != api.OK {
		t.Fatalf("%s: Implied says %t, error %d, of %s", showSystem(s), is, e, showRow(w))
	}
}

// impliedNear checks what Implied says of the rows that a goal, whose range is known, is at least, at most and exactly a value.
func impliedNear(t *testing.T, s api.System, goal []api.Term, known string, value *gobig.Rat) {
	t.Helper()
	least, most, _ := strings.Cut(known, "..")
	never := known == "none"
	low := never || least != "" && value.Cmp(ratOf(raw(least))) <= 0
	high := never || most != "" && value.Cmp(ratOf(raw(most))) >= 0
	for kind, want := range []bool{low, high, low && high} {
		impliedIs(t, s, api.Row{Terms: goal, Kind: kind, Value: of(value)}, want)
	}
}

// The model: the variables are eliminated one by one, by an equation if there is one, and otherwise by the sums of two inequalities each (Fourier and Motzkin), until only the value of the goal is left.

// sum says that a sum of the variables and, as the last one, the goal is at least a value. from are the inequalities, as bits, of which it is the sum.
type sum struct {
	coefs []*gobig.Rat
	value *gobig.Rat
	from  uint64
}

// plus returns the sum of two sums, the second one times f.
func (a sum) plus(b sum, f *gobig.Rat) sum {
	out := sum{value: new(gobig.Rat), from: a.from | b.from}
	add := func(x, y *gobig.Rat) *gobig.Rat {
		product := new(gobig.Rat).Mul(y, f)
		return product.Add(product, x)
	}
	for v := range a.coefs {
		out.coefs = append(out.coefs, add(a.coefs[v], b.coefs[v]))
	}
	out.value = add(a.value, b.value)
	return out
}

// zero returns a sum that is 0, and at least 0.
func zero(n int) sum {
	l := sum{value: new(gobig.Rat)}
	for range n + 1 {
		l.coefs = append(l.coefs, new(gobig.Rat))
	}
	return l
}

func sumOf(l []api.Term, value *gobig.Rat, n int) sum {
	out := zero(n)
	for _, t := range l {
		out.coefs[t.Var] = ratOf(t.Coef)
	}
	out.value = value
	return out
}

func minus() *gobig.Rat { return gobig.NewRat(-1, 1) }

// without eliminates a variable from sums that are at least their value.
func without(l []sum, v int) []sum {
	var out, up, down []sum
	for _, a := range l {
		switch a.coefs[v].Sign() {
		case 0:
			out = append(out, a)
		case 1:
			up = append(up, a)
		default:
			down = append(down, a)
		}
	}
	for _, a := range up {
		for _, b := range down {
			f := new(gobig.Rat).Quo(a.coefs[v], b.coefs[v])
			out = append(out, a.plus(b, f.Neg(f)))
		}
	}
	return out
}

// inequalities returns sums that are at least their values, without a few variables that equations say, and how many others there are before the goal.
func inequalities(s api.System, goal []api.Term) ([]sum, []int) {
	n := s.N
	of := sumOf(goal, new(gobig.Rat), n)
	of.coefs[n] = minus()
	equations, l := []sum{of}, []sum{}
	for _, w := range s.Rows {
		a := sumOf(w.Terms, ratOf(w.Value), n)
		switch w.Kind {
		case api.RoLeast:
			l = append(l, a)
		case api.RoMost:
			l = append(l, zero(n).plus(a, minus()))
		default:
			equations = append(equations, a)
		}
	}
	for v := range n {
		l = append(l, sumOf([]api.Term{{Var: v, Coef: raw("1")}}, new(gobig.Rat), n))
	}
	var left []int
	for v := range n {
		i := slices.IndexFunc(equations, func(a sum) bool { return a.coefs[v].Sign() != 0 })
		if i < 0 {
			left = append(left, v)
			continue
		}
		by := equations[i]
		equations = slices.Delete(equations, i, i+1)
		for _, all := range [][]sum{equations, l} {
			for k, a := range all {
				f := new(gobig.Rat).Quo(a.coefs[v], by.coefs[v])
				all[k] = a.plus(by, f.Neg(f))
			}
		}
	}
	for _, a := range equations {
		l = append(l, a, zero(n).plus(a, minus()))
	}
	return l, left
}

// expected returns the range of a goal over a system by the model: least..most, without what there is not, or none.
func expected(s api.System, goal []api.Term) string {
	l, left := inequalities(s, goal)
	for i := range l {
		l[i].from = 1 << i
	}
	for i, v := range left {
		// After so many variables a sum of more inequalities than that follows from others.
		l = slices.DeleteFunc(without(l, v), func(a sum) bool { return bits.OnesCount64(a.from) > i+2 })
	}
	var least, most *gobig.Rat
	for _, a := range l {
		by := a.coefs[s.N]
		if by.Sign() == 0 && a.value.Sign() > 0 {
			return "none"
		} else if by.Sign() == 0 {
			continue
		}
		end := new(gobig.Rat).Quo(a.value, by)
		if by.Sign() > 0 && (least == nil || end.Cmp(least) > 0) {
			least = end
		} else if by.Sign() < 0 && (most == nil || end.Cmp(most) < 0) {
			most = end
		}
	}
	if least != nil && most != nil && least.Cmp(most) > 0 {
		return "none"
	}
	text := ".."
	if least != nil {
		text = least.RatString() + text
	}
	if most != nil {
		text += most.RatString()
	}
	return text
}

// sort is what a range is like: 0 without a solution, otherwise 1, and 1 more with a least value, 2 more with a greatest one, and 3 more if both are the same.
type sort int

const sorts = 6

var names = [sorts]string{"none", "free", "a least value", "a greatest value", "both", "certain"}

func sortOf(known string) sort {
	least, most, is := strings.Cut(known, "..")
	switch {
	case !is:
		return 0
	case least == "" && most == "":
		return 1
	case most == "":
		return 2
	case least == "":
		return 3
	case least != most:
		return 4
	}
	return 5
}

// agrees compares the functions with the model, and returns what the range is like.
func agrees(t *testing.T, s api.System, goal []api.Term) sort {
	t.Helper()
	want := expected(s, goal)
	rangeIs(t, s, goal, want)
	return sortOf(want)
}

// enough checks that there were so many ranges of each sort.
func enough(t *testing.T, seen [sorts]int, least int) {
	t.Helper()
	for i, n := range seen {
		if n < least {
			t.Errorf("only %d ranges of the sort: %s", n, names[i])
		}
	}
}

// lists returns all lists of n numbers from least to most.
func lists(n, least, most int) [][]int {
	all := [][]int{{}}
	for range n {
		var longer [][]int
		for _, l := range all {
			for k := least; k <= most; k++ {
				longer = append(longer, append(slices.Clone(l), k))
			}
		}
		all = longer
	}
	return all
}

// whole returns the terms with these coefficients.
func whole(l ...int) []api.Term {
	var out []api.Term
	for v, n := range l {
		if n != 0 {
			out = append(out, api.Term{Var: v, Coef: of(gobig.NewRat(int64(n), 1))})
		}
	}
	return out
}

func wholeRow(kind, value int, l ...int) api.Row {
	return api.Row{Terms: whole(l...), Kind: kind, Value: of(gobig.NewRat(int64(value), 1))}
}

func TestAllSystemsOfOneVariable(t *testing.T) {
	// No row, one row and two rows of each kind, with each goal.
	var rows []api.Row
	for kind := range api.RoKinds {
		for _, l := range lists(2, -1, 1) {
			rows = append(rows, wholeRow(kind, l[0], l[1]))
		}
	}
	for goal := -1; goal <= 1; goal++ {
		agrees(t, api.System{N: 1}, whole(goal))
		for _, w := range rows {
			agrees(t, api.System{N: 1, Rows: []api.Row{w}}, whole(goal))
			for _, v := range rows {
				agrees(t, api.System{N: 1, Rows: []api.Row{w, v}}, whole(goal))
			}
		}
	}
}

func TestAllSystemsOfTwoVariables(t *testing.T) {
	var seen [sorts]int
	goals := lists(2, -1, 1)
	for kinds := range api.RoKinds * api.RoKinds {
		for i, l := range lists(6, -1, 1) {
			s := api.System{N: 2, Rows: []api.Row{wholeRow(kinds/api.RoKinds, l[0], l[1], l[2]), wholeRow(kinds%api.RoKinds, l[3], l[4], l[5])}}
			seen[agrees(t, s, whole(goals[(i+kinds)%len(goals)]...))]++
		}
	}
	enough(t, seen, 50)
}

// some returns a fraction whose parts have up to so many bits; it is often 0, or of few digits.
func some(r *rand.Rand, most int) *gobig.Rat {
	switch r.Intn(5) {
	case 0:
		return new(gobig.Rat)
	case 1, 2:
		return gobig.NewRat(int64(r.Intn(9)-4), int64(1+r.Intn(3)))
	}
	part := func() *gobig.Int {
		return new(gobig.Int).Rand(r, new(gobig.Int).Lsh(gobig.NewInt(1), uint(1+r.Intn(most))))
	}
	f := new(gobig.Rat).SetFrac(part(), new(gobig.Int).Add(part(), gobig.NewInt(1)))
	if r.Intn(2) == 0 {
		f.Neg(f)
	}
	return f
}

func someTerms(r *rand.Rand, n, most int) []api.Term {
	var l []api.Term
	for v := range n {
		if f := some(r, most); f.Sign() != 0 {
			l = append(l, api.Term{Var: v, Coef: of(f)})
		}
	}
	return l
}

func someRow(r *rand.Rand, n, most int) api.Row {
	return api.Row{Terms: someTerms(r, n, most), Kind: r.Intn(api.RoKinds), Value: of(some(r, most))}
}

// someSystem returns a system with a goal, which is often a sum of rows. In two cases of three the system has a solution, at which many of its rows hold just so.
func someSystem(r *rand.Rand, i, n, rows, most int) (api.System, []api.Term) {
	s := api.System{N: n}
	x := make([]api.Frac, n)
	for v := range x {
		f := some(r, most)
		x[v] = of(f.Abs(f))
	}
	for range rows {
		w := someRow(r, n, most)
		if i%3 > 0 {
			w.Value = allowing(r, w, x, most)
		}
		s.Rows = append(s.Rows, w)
	}
	goal := someTerms(r, n, most)
	if i%5 > 2 {
		goal = nil
		for _, w := range s.Rows {
			goal = linear.Plus(goal, linear.Times(w.Terms, of(some(r, most))))
		}
	}
	return s, goal
}

// allowing returns a value with which a row holds at x.
func allowing(r *rand.Rand, w api.Row, x []api.Frac, most int) api.Frac {
	value, _ := linear.Value(w.Terms, x)
	slack := some(r, most)
	switch slack.Abs(slack); w.Kind {
	case api.RoLeast:
		slack.Neg(slack)
	case api.RoEqual:
		slack.SetInt64(0)
	}
	return of(slack.Add(slack, ratOf(value)))
}

func TestSmallSystemsAgainstTheModel(t *testing.T) {
	r := rand.New(rand.NewSource(1))
	var seen [sorts]int
	for i := range 3000 {
		s, goal := someSystem(r, i, r.Intn(5), r.Intn(6), 4)
		seen[agrees(t, s, goal)]++
	}
	enough(t, seen, 100)
}

func TestLongFractionsAgainstTheModel(t *testing.T) {
	r := rand.New(rand.NewSource(2))
	var seen [sorts]int
	for i := range 400 {
		s, goal := someSystem(r, i, 1+r.Intn(3), r.Intn(5), 20+i)
		seen[agrees(t, s, goal)]++
	}
	enough(t, seen, 10)
}

func TestRowsAgainstTheModel(t *testing.T) {
	// A row is implied if its terms are bounded by its value, whatever the value.
	r := rand.New(rand.NewSource(3))
	var seen [2]int
	for i := range 3000 {
		s, _ := someSystem(r, i, r.Intn(5), r.Intn(6), 4)
		w := someRow(r, s.N, 4)
		impliedNear(t, s, w.Terms, expected(s, w.Terms), ratOf(w.Value))
		if is, _ := span.Implied(s, w); is {
			seen[1]++
		} else {
			seen[0]++
		}
	}
	if min(seen[0], seen[1]) < 300 {
		t.Errorf("%v rows are not implied, and are", seen)
	}
}

// wrongs are fractions that are not right.
func wrongs() []api.Frac {
	one := raw("1").P
	l := []api.Frac{{}, {P: one}, {P: one, Q: api.Big{Sign: 2, Digits: []int{1}}}, {P: api.Big{Sign: 1}, Q: one}, {P: api.Big{Sign: 1, Digits: []int{top + 1}}, Q: one}, {P: api.Big{Sign: 1, Digits: []int{1, 0}}, Q: one}, {P: api.Big{Digits: []int{0}}, Q: one}, {P: one, Q: api.Big{Sign: 1, Digits: []int{-1}}}}
	for _, s := range []string{"2/4", "0/2", "1/0", "0/0", "1/-1", "-1/-1", "3000000000000000000000000000000/9"} {
		l = append(l, raw(s))
	}
	return l
}

// wrongTerms are terms that are not right for 3 variables.
func wrongTerms() [][]api.Term {
	var l [][]api.Term
	for _, s := range []string{"3:1", "0:1 3:1", "-1:1", "-1:1 0:1", "1:1 0:1", "1:1 1:1", "0:1 2:1 1:1", "0:0", "0:1 1:0", "9223372036854775807:1", "-9223372036854775808:1", "4294967296:1", "0:2/4", "0:1 1:1/0"} {
		l = append(l, terms(s))
	}
	for _, f := range wrongs() {
		l = append(l, []api.Term{{Coef: f}}, []api.Term{{Coef: raw("1")}, {Var: 2, Coef: f}})
	}
	return l
}

// wrongRows are rows that are not right for 3 variables.
func wrongRows() []api.Row {
	var l []api.Row
	for _, kind := range []int{-1, api.RoKinds, math.MinInt, math.MaxInt, 1 << 32} {
		l = append(l, api.Row{Kind: kind, Value: raw("0")}, api.Row{Terms: terms("0:1"), Kind: kind, Value: raw("0")})
	}
	for _, f := range wrongs() {
		l = append(l, api.Row{Value: f}, api.Row{Terms: terms("0:1"), Kind: api.RoMost, Value: f}, api.Row{Terms: terms("1:1"), Kind: api.RoEqual, Value: f})
	}
	for i, terms := range wrongTerms() {
		l = append(l, api.Row{Terms: terms, Kind: i % api.RoKinds, Value: raw("0")})
	}
	return l
}
