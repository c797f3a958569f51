package simplex

import (
	"math"
	gobig "math/big"
	"math/rand"
	"testing"

	"kerbside/api"
)

// The model is Go's own package for integers.

func ofInt(x *gobig.Int) whole {
	var l limbs
	for _, w := range x.Bits() {
		l = append(l, uint(w))
	}
	return wholeOf(x.Sign(), l)
}

func (a whole) value() *gobig.Int {
	var room [1]uint
	var l []gobig.Word
	for _, x := range a.size(&room) {
		l = append(l, gobig.Word(x))
	}
	n := new(gobig.Int).SetBits(l)
	if a.n < 0 {
		n.Neg(n)
	}
	return n
}

// holds checks a result, and that it is an int if it can be one.
func holds(t *testing.T, what string, got whole, want *gobig.Int) {
	t.Helper()
	fits := want.IsInt64() && want.Int64() != math.MinInt64
	if got.value().Cmp(want) != 0 || (got.far == nil) != fits || !fits && got.n != want.Sign() {
		t.Fatalf("%s is %s, want %s", what, got.value(), want)
	}
}

// some returns an integer of a random size, often with limbs that are the least or the greatest ones, or close to a power of 2.
func some(r *rand.Rand) *gobig.Int {
	n, limbs := new(gobig.Int), r.Intn(7)
	if r.Intn(30) == 0 {
		limbs = r.Intn(60)
	}
	switch r.Intn(4) {
	case 0:
		n.Rand(r, new(gobig.Int).Lsh(gobig.NewInt(1), uint(1+r.Intn(64*limbs+1))))
	case 1:
		n.Lsh(gobig.NewInt(1), uint(r.Intn(64*limbs+1)))
		n.Add(n, gobig.NewInt(int64(r.Intn(5)-2)))
	default:
		for range limbs {
			limb := []uint64{0, 0, 1, 1 << 63, 1<<63 - 1, math.MaxUint64, math.MaxUint64, r.Uint64()}[r.Intn(8)]
			n.Add(n.Lsh(n, 64), new(gobig.Int).SetUint64(limb))
		}
	}
	if r.Intn(2) == 0 {
		n.Neg(n)
	}
	return n
}

func positive(r *rand.Rand) *gobig.Int {
	n := some(r)
	if n.Sign() == 0 {
		n.SetInt64(1)
	}
	return n.Abs(n)
}

// mixes compares mix with the model.
func mixes(t *testing.T, r *room, f, a, g, b, by *gobig.Int) {
	t.Helper()
	sum := new(gobig.Int).Mul(f, a)
	sum.Add(sum, new(gobig.Int).Mul(g, b))
	wantQuotient, wantRest := new(gobig.Int).QuoRem(sum, by, new(gobig.Int))
	quotient, rest := r.mix(ofInt(f), ofInt(a), ofInt(g), ofInt(b), ofInt(by))
	holds(t, "the quotient", quotient, wantQuotient)
	holds(t, "the remainder", rest, wantRest)
}

func TestMix(t *testing.T) {
	r, one := rand.New(rand.NewSource(1)), gobig.NewInt(1)
	var memory room
	for range 100000 {
		f, a, g, b, by := some(r), some(r), some(r), some(r), positive(r)
		mixes(t, &memory, f, a, g, b, by)
		mixes(t, &memory, f, a, g, b, one)
		mixes(t, &memory, f, a, new(gobig.Int), b, by)
		mixes(t, &memory, f, a, new(gobig.Int).Neg(f), a, by)
		mixes(t, &memory, new(gobig.Int).Mul(f, by), a, new(gobig.Int).Mul(g, by), b, by)
		mixes(t, &memory, f, a, g, b, gobig.NewInt(1+r.Int63()))
	}
}

func TestMixOfInts(t *testing.T) {
	// Products and sums just within the ints, or beyond.
	var ints []*gobig.Int
	for _, k := range []uint{0, 1, 20, 30, 31, 32, 33, 61, 62, 63, 64} {
		for d := int64(-1); d <= 1; d++ {
			n := new(gobig.Int).Lsh(gobig.NewInt(1), k)
			n.Add(n, gobig.NewInt(d))
			ints = append(ints, n, new(gobig.Int).Neg(n))
		}
	}
	var memory room
	for _, f := range ints {
		for _, a := range ints {
			for i, g := range ints {
				mixes(t, &memory, f, a, g, gobig.NewInt(1), gobig.NewInt(1))
				mixes(t, &memory, f, a, g, ints[(i+7)%len(ints)], gobig.NewInt(int64(1+i%3)))
			}
		}
	}
}

func TestDivisionsThatGuessWrong(t *testing.T) {
	// The last two limbs of the divisor allow a limb of the quotient that is too great by 1.
	number := func(l ...uint) *gobig.Int { return wholeOf(1, limbs(l).trim()).value() }
	one, none := gobig.NewInt(1), new(gobig.Int)
	var memory room
	for _, c := range [][2]*gobig.Int{
		{number(3, 0, 1<<63), number(1, 0, 1<<61)}, {number(0, 0, 1<<63, 1<<63-1), number(1, 0, 1<<63)}, {number(0, ^uint(1), 1<<63), number(^uint(0), 1<<63)}, {number(0, 0, 0, 1<<63), number(1, 0, 1<<63)}, {number(^uint(0), ^uint(0), ^uint(0), ^uint(0)-1), number(^uint(0), ^uint(0), ^uint(0))},
	} {
		mixes(t, &memory, c[0], one, none, none, c[1])
		mixes(t, &memory, new(gobig.Int).Neg(c[0]), one, none, none, c[1])
	}
}

func TestDivisor(t *testing.T) {
	r := rand.New(rand.NewSource(2))
	agrees := func(a, b *gobig.Int) {
		t.Helper()
		want := new(gobig.Int).GCD(nil, nil, new(gobig.Int).Abs(a), new(gobig.Int).Abs(b))
		holds(t, "the divisor", divisor(ofInt(a), ofInt(b)), want)
		holds(t, "the divisor", divisor(ofInt(b), ofInt(a)), want)
		if a.Sign() > 0 && b.Sign() > 0 {
			holds(t, "the multiple", multiple(ofInt(a), ofInt(b)), want.Div(new(gobig.Int).Mul(a, b), want))
		}
	}
	agrees(new(gobig.Int), new(gobig.Int))
	for range 50000 {
		a, b, c := some(r), some(r), some(r)
		agrees(a, b)
		agrees(a, new(gobig.Int))
		agrees(new(gobig.Int).Mul(a, c), new(gobig.Int).Mul(b, c))
		agrees(new(gobig.Int).Mul(a, b), a)
		agrees(new(gobig.Int).Add(new(gobig.Int).Mul(a, b), gobig.NewInt(1)), a)
	}
	// Neighbours of a continued fraction: Euclid's algorithm takes as many steps as it can.
	for _, step := range []int64{1, 2, 1 << 31, math.MaxInt64} {
		p, q := gobig.NewInt(1), gobig.NewInt(1)
		for range 300 {
			p, q = new(gobig.Int).Add(new(gobig.Int).Mul(p, gobig.NewInt(step)), q), p
			agrees(p, q)
		}
	}
}

func TestDivisorsOfNumbersThatAreClose(t *testing.T) {
	// Where a number of Euclid's algorithm is close to 0, or to the one before it, the leading bits do not tell the next step: the bits that follow them are the least or the greatest ones here.
	r := rand.New(rand.NewSource(9))
	seen := 0
	for range 60000 {
		y := gobig.NewInt(1 + r.Int63n(1<<(10+r.Intn(35))))
		x := new(gobig.Int).Add(y, gobig.NewInt(r.Int63n(1<<r.Intn(40))))
		if r.Intn(2) == 0 {
			x, y = x.Sub(x, y), new(gobig.Int)
		}
		for x.Sign() > 0 && x.BitLen() < leading {
			next := new(gobig.Int).Mul(x, gobig.NewInt(1+r.Int63n(1<<r.Intn(8))))
			x, y = next.Add(next, y), x
		}
		if x.BitLen() != leading {
			continue
		}
		seen++
		k := uint(64 + r.Intn(130))
		low := new(gobig.Int).Sub(new(gobig.Int).Lsh(gobig.NewInt(1), k), gobig.NewInt(1))
		for _, f := range [][2]int64{{0, 0}, {0, 1}, {1, 0}, {1, 1}} {
			a := new(gobig.Int).Add(new(gobig.Int).Lsh(x, k), new(gobig.Int).Mul(low, gobig.NewInt(f[0])))
			b := new(gobig.Int).Add(new(gobig.Int).Lsh(y, k), new(gobig.Int).Mul(low, gobig.NewInt(f[1])))
			holds(t, "the divisor", divisor(ofInt(a), ofInt(b)), new(gobig.Int).GCD(nil, nil, a, b))
		}
	}
	if seen < 5000 {
		t.Errorf("only %d pairs", seen)
	}
}

func TestCompareProducts(t *testing.T) {
	r := rand.New(rand.NewSource(3))
	for range 50000 {
		a, b, c, d := some(r), some(r), some(r), some(r)
		if r.Intn(3) == 0 {
			// Both products are equal, or close to it.
			k := some(r)
			a, d = new(gobig.Int).Mul(c, k), new(gobig.Int).Mul(b, k)
			d.Add(d, gobig.NewInt(int64(r.Intn(3)-1)))
		}
		want := new(gobig.Int).Mul(a, b).Cmp(new(gobig.Int).Mul(c, d))
		if got := compareProducts(ofInt(a), ofInt(b), ofInt(c), ofInt(d)); got != want {
			t.Fatalf("%s times %s is %d compared to %s times %s", a, b, got, c, d)
		}
		x, y, p, q := ofInt(a), ofInt(c), positive(r), positive(r)
		s, u := shortened(x, ofInt(p)), shortened(y, ofInt(q))
		want = new(gobig.Rat).SetFrac(a, new(gobig.Int).Mul(p, q)).Cmp(new(gobig.Rat).SetFrac(c, new(gobig.Int).Mul(q, q)))
		if got := compareQuotients(s, ofInt(q), u, ofInt(q)); got != want {
			t.Fatalf("%s / %s / %s is %d compared to %s / %s / %s", a, p, q, got, c, q, q)
		}
	}
}

func TestMixRatios(t *testing.T) {
	r := rand.New(rand.NewSource(4))
	var memory room
	for range 20000 {
		f, g, by := some(r), some(r), positive(r)
		x, y := new(gobig.Rat).SetFrac(some(r), positive(r)), new(gobig.Rat).SetFrac(some(r), positive(r))
		want := new(gobig.Rat).Mul(x, new(gobig.Rat).SetInt(f))
		want.Add(want, new(gobig.Rat).Mul(y, new(gobig.Rat).SetInt(g)))
		want.Quo(want, new(gobig.Rat).SetInt(by))
		ratioOf := func(x *gobig.Rat) ratio { return ratio{ofInt(x.Num()), ofInt(x.Denom())} }
		got := memory.mixRatios(ofInt(f), ratioOf(x), ofInt(g), ratioOf(y), ofInt(by))
		holds(t, "the numerator", got.p, want.Num())
		holds(t, "the denominator", got.q, want.Denom())
	}
}

func TestReadAndWrite(t *testing.T) {
	r := rand.New(rand.NewSource(5))
	numbers := []*gobig.Int{new(gobig.Int)}
	for k := range uint(200) {
		for d := int64(-1); d <= 1; d++ {
			n := new(gobig.Int).Lsh(gobig.NewInt(1), k)
			n.Add(n, gobig.NewInt(d))
			numbers = append(numbers, n, new(gobig.Int).Neg(n))
		}
	}
	for range 20000 {
		numbers = append(numbers, some(r))
	}
	for _, n := range numbers {
		want := api.Big{Sign: n.Sign()}
		for rest := new(gobig.Int).Abs(n); rest.Sign() > 0; rest.Rsh(rest, 20) {
			want.Digits = append(want.Digits, int(new(gobig.Int).And(rest, gobig.NewInt(1<<20-1)).Int64()))
		}
		holds(t, "what is read", read(want), n)
		if got := ofInt(n).write(); got.Sign != want.Sign || len(got.Digits) != len(want.Digits) {
			t.Fatalf("%s is written as %v, want %v", n, got, want)
		} else {
			for i, d := range want.Digits {
				if got.Digits[i] != d {
					t.Fatalf("%s is written as %v, want %v", n, got, want)
				}
			}
		}
	}
}

func TestLog(t *testing.T) {
	// A logarithm is wrong by less than a tenth of that of 2, and grows with the number.
	r := rand.New(rand.NewSource(6))
	for range 20000 {
		n := positive(r)
		m := new(gobig.Int).Add(n, positive(r))
		a, b := ofInt(n).log(), ofInt(new(gobig.Int).Neg(m)).log()
		mantissa := new(gobig.Float)
		e := new(gobig.Float).SetInt(n).MantExp(mantissa)
		lead, _ := mantissa.Float64()
		want := 256 * (float64(e) + 1 + math.Log2(lead))
		if a > b || math.Abs(float64(a)-want) > 26 {
			t.Fatalf("the logarithm of %s is %d, want about %f, and that of %s is %d", n, a, want, m, b)
		}
	}
}
