package soft

import (
	"math"
	"math/big"
	"math/rand"
	"testing"

	"grotto/api"
	"grotto/round"
)

var (
	single = api.Format{Mant: 23, Exp: 8}
	double = api.Format{Mant: 52, Exp: 11}
	least  = api.Format{Mant: 2, Exp: 2}
)

// smallFormats are those of whose patterns all pairs can be gone through quickly.
func smallFormats() []api.Format {
	return []api.Format{{Mant: 2, Exp: 2}, {Mant: 4, Exp: 2}, {Mant: 2, Exp: 3}, {Mant: 3, Exp: 3}, {Mant: 2, Exp: 4}}
}

// cornerFormats are the least, the greatest, the lopsided ones and those that are in use.
func cornerFormats() []api.Format {
	return []api.Format{least, {Mant: 52, Exp: 2}, {Mant: 2, Exp: 11}, {Mant: 52, Exp: 7}, {Mant: 10, Exp: 5}, single, double}
}

// allFormats are those that may be.
func allFormats() []api.Format {
	var all []api.Format
	for mant := 2; mant <= 52; mant++ {
		for exp := 2; exp <= 11; exp++ {
			all = append(all, api.Format{Mant: mant, Exp: exp})
		}
	}
	return all
}

// wrongFormats are those that may not be.
func wrongFormats() []api.Format {
	return []api.Format{
		{}, {Mant: 1, Exp: 2}, {Mant: 2, Exp: 1}, {Mant: 53, Exp: 11}, {Mant: 52, Exp: 12}, {Mant: -1, Exp: 8}, {Mant: 23, Exp: -1},
		{Mant: 60, Exp: 60}, {Mant: math.MinInt, Exp: 8}, {Mant: math.MaxInt, Exp: 8}, {Mant: 23, Exp: math.MinInt},
		{Mant: 23, Exp: math.MaxInt}, {Mant: math.MaxInt, Exp: math.MaxInt}, {Mant: math.MinInt, Exp: math.MinInt},
	}
}

// power is 2 to the power e.
func power(e int) *big.Rat {
	n := new(big.Int).Lsh(big.NewInt(1), uint(max(e, -e)))
	if e < 0 {
		return new(big.Rat).SetFrac(big.NewInt(1), n)
	}
	return new(big.Rat).SetInt(n)
}

// biasOf is what a field is greater by than the power that it says.
func biasOf(f api.Format) int {
	return 1<<(f.Exp-1) - 1
}

// top is the sign of a pattern.
func top(f api.Format) uint64 {
	return 1 << (f.Mant + f.Exp)
}

// last is the pattern whose bits are all ones.
func last(f api.Format) uint64 {
	return top(f) + (top(f) - 1)
}

// patterns are all that a small format has.
func patterns(f api.Format) []uint64 {
	var all []uint64
	for x := range last(f) + 1 {
		all = append(all, x)
	}
	return all
}

// infinite is the pattern of infinity, without a sign.
func infinite(f api.Format) uint64 {
	return (1<<f.Exp - 1) << f.Mant
}

// size is a pattern without its sign.
func size(f api.Format, x uint64) uint64 {
	return x % top(f)
}

// isNeg is whether a pattern's sign is set.
func isNeg(f api.Format, x uint64) bool {
	return x/top(f) == 1
}

// isInf is whether a pattern is infinite.
func isInf(f api.Format, x uint64) bool {
	return size(f, x) == infinite(f)
}

// isNaN is whether a pattern is no number.
func isNaN(f api.Format, x uint64) bool {
	return size(f, x) > infinite(f)
}

// isZero is whether a pattern is a zero.
func isZero(f api.Format, x uint64) bool {
	return size(f, x) == 0
}

// isFinite is whether a pattern is neither infinite nor no number; zeros are.
func isFinite(f api.Format, x uint64) bool {
	return size(f, x) < infinite(f)
}

// signed is a pattern whose sign is 0, with a sign.
func signed(f api.Format, neg bool, x uint64) uint64 {
	if neg {
		return x + top(f)
	}
	return x
}

// none is the one pattern that stands for what is no number.
func none(f api.Format) uint64 {
	return infinite(f) + 1<<(f.Mant-1)
}

// value is the number of a finite pattern, with its sign.
func value(f api.Format, x uint64) *big.Rat {
	field, fraction := size(f, x)>>f.Mant, x%(1<<f.Mant)
	e := int(field) - biasOf(f) - f.Mant
	if field == 0 {
		e++
	} else {
		fraction += 1 << f.Mant
	}
	v := new(big.Rat).SetInt(new(big.Int).SetUint64(fraction))
	v.Mul(v, power(e))
	if isNeg(f, x) {
		v.Neg(v)
	}
	return v
}

// nearest is the pattern that is nearest to a number, with this sign.
func nearest(f api.Format, neg bool, v *big.Rat) uint64 {
	v = new(big.Rat).Abs(v)
	if v.Sign() == 0 {
		return signed(f, neg, 0)
	}
	// 100 bits and something: more than every format has.
	e := v.Num().BitLen() - v.Denom().BitLen() - 100
	scaled := v.Mul(v, power(-e))
	n, left := new(big.Int).QuoRem(scaled.Num(), scaled.Denom(), new(big.Int))
	low := new(big.Int).And(n, new(big.Int).SetUint64(math.MaxUint64))
	x, err := round.Pack(f, neg, new(big.Int).Rsh(n, 64).Uint64(), low.Uint64(), e, left.Sign() != 0)
	if err != api.OK {
		panic("nearest: Pack refused what it was told")
	}
	return x
}

// quotientOf is a divided by b without what is behind the point, as a number.
func quotientOf(f api.Format, a, b uint64) *big.Rat {
	q := new(big.Rat).Quo(value(f, a), value(f, b))
	return new(big.Rat).SetInt(new(big.Int).Quo(q.Num(), q.Denom()))
}

// wantAdd says P3.1 once more, with exact numbers.
func wantAdd(f api.Format, a, b uint64) uint64 {
	switch {
	case isNaN(f, a) || isNaN(f, b):
		return none(f)
	case isInf(f, a) && isInf(f, b) && a != b:
		return none(f)
	case isInf(f, a):
		return a
	case isInf(f, b):
		return b
	case isZero(f, a) && isZero(f, b):
		return min(a, b)
	}
	v := new(big.Rat).Add(value(f, a), value(f, b))
	return nearest(f, v.Sign() < 0, v)
}

// wantSub likewise.
func wantSub(f api.Format, a, b uint64) uint64 {
	return wantAdd(f, a, b^top(f))
}

// wantMul says P3.2 once more.
func wantMul(f api.Format, a, b uint64) uint64 {
	neg := isNeg(f, a) != isNeg(f, b)
	switch {
	case isNaN(f, a) || isNaN(f, b):
		return none(f)
	case isInf(f, a) && isZero(f, b) || isZero(f, a) && isInf(f, b):
		return none(f)
	case isInf(f, a) || isInf(f, b):
		return signed(f, neg, infinite(f))
	}
	return nearest(f, neg, new(big.Rat).Mul(value(f, a), value(f, b)))
}

// wantDiv likewise.
func wantDiv(f api.Format, a, b uint64) uint64 {
	neg := isNeg(f, a) != isNeg(f, b)
	switch {
	case isNaN(f, a) || isNaN(f, b):
		return none(f)
	case isInf(f, a) && isInf(f, b) || isZero(f, a) && isZero(f, b):
		return none(f)
	case isInf(f, a) || isZero(f, b):
		return signed(f, neg, infinite(f))
	case isInf(f, b):
		return signed(f, neg, 0)
	}
	return nearest(f, neg, new(big.Rat).Quo(value(f, a), value(f, b)))
}

// wantMod says P3.4 once more.
func wantMod(f api.Format, a, b uint64) (rest, quo uint64) {
	if isNaN(f, a) || isNaN(f, b) || isInf(f, a) || isZero(f, b) {
		return none(f), none(f)
	}
	neg := isNeg(f, a) != isNeg(f, b)
	if isInf(f, b) {
		return a, signed(f, neg, 0)
	}
	q := quotientOf(f, a, b)
	left := new(big.Rat).Sub(value(f, a), new(big.Rat).Mul(q, value(f, b)))
	return nearest(f, isNeg(f, a), left), nearest(f, neg, q)
}

// checkPair holds all that is reckoned of two patterns against exact numbers.
func checkPair(t *testing.T, f api.Format, a, b uint64) {
	t.Helper()
	for _, c := range []struct {
		what string
		call func(api.Format, uint64, uint64) (uint64, api.Errno)
		want func(api.Format, uint64, uint64) uint64
	}{{"Add", Add, wantAdd}, {"Sub", Sub, wantSub}, {"Mul", Mul, wantMul}, {"Div", Div, wantDiv}} {
		if x, e := c.call(f, a, b); x != c.want(f, a, b) || e != api.OK {
			t.Errorf("%s(%v, %x, %x) = %x, %d, not %x", c.what, f, a, b, x, e, c.want(f, a, b))
		}
	}
	wantRest, wantQuo := wantMod(f, a, b)
	if rest, quo, e := Mod(f, a, b); rest != wantRest || quo != wantQuo || e != api.OK {
		t.Errorf("Mod(%v, %x, %x) = %x, %x, %d, not %x, %x", f, a, b, rest, quo, e, wantRest, wantQuo)
	}
	wantOrder, ok := 0, !isNaN(f, a) && !isNaN(f, b)
	if ok {
		// Infinity comes to 2 to the power bias + 1 there, which is above all finite numbers.
		wantOrder = value(f, a).Cmp(value(f, b))
	}
	if order, is, e := Cmp(f, a, b); order != wantOrder || is != ok || e != api.OK {
		t.Errorf("Cmp(%v, %x, %x) = %d, %v, %d, not %d, %v", f, a, b, order, is, e, wantOrder, ok)
	}
}

// checkOne holds all that is reckoned of one pattern against exact numbers.
func checkOne(t *testing.T, f api.Format, a uint64) {
	t.Helper()
	checkSqrt(t, f, a)
	checkFloorCeil(t, f, a)
	checkWhole(t, f, a)
}

// checkSqrt holds a root against the squares of the middles beside it.
func checkSqrt(t *testing.T, f api.Format, a uint64) {
	t.Helper()
	x, e := Sqrt(f, a)
	if e != api.OK || x > last(f) {
		t.Fatalf("Sqrt(%v, %x) = %x, %d", f, a, x, e)
	}
	if isZero(f, a) || a == infinite(f) || isNaN(f, a) || isNeg(f, a) {
		want := a
		if isNaN(f, a) || isNeg(f, a) && !isZero(f, a) {
			want = none(f)
		}
		if x != want {
			t.Errorf("Sqrt(%v, %x) = %x, not %x", f, a, x, want)
		}
		return
	}
	v := value(f, a)
	if x >= infinite(f) || x == 0 {
		t.Fatalf("Sqrt(%v, %x) = %x: roots of numbers above 0 are neither infinite nor zero", f, a, x)
	}
	// The next pattern of the greatest finite one comes to 2 to the power bias + 1.
	above, below := middleSquare(f, x, x+1), middleSquare(f, x-1, x)
	if below.Cmp(v) > 0 || above.Cmp(v) < 0 || x%2 == 1 && (below.Cmp(v) == 0 || above.Cmp(v) == 0) {
		t.Errorf("Sqrt(%v, %x) = %x: not the nearest", f, a, x)
	}
}

// middleSquare is the square of the middle between two patterns' numbers.
func middleSquare(f api.Format, x, y uint64) *big.Rat {
	m := new(big.Rat).Add(value(f, x), value(f, y))
	m.Quo(m, big.NewRat(2, 1))
	return m.Mul(m, m)
}

// floorOf is the greatest whole number that is not above.
func floorOf(v *big.Rat) *big.Rat {
	// The denominator is above 0, and then Div rounds downwards.
	return new(big.Rat).SetInt(new(big.Int).Div(v.Num(), v.Denom()))
}

// ceilOf is the least whole number that is not below.
func ceilOf(v *big.Rat) *big.Rat {
	down := floorOf(new(big.Rat).Neg(v))
	return down.Neg(down)
}

// checkFloorCeil holds the whole numbers beside a pattern against exact ones.
func checkFloorCeil(t *testing.T, f api.Format, a uint64) {
	t.Helper()
	floor, ceil := a, a
	if isNaN(f, a) {
		floor, ceil = none(f), none(f)
	} else if isFinite(f, a) {
		floor = nearest(f, isNeg(f, a), floorOf(value(f, a)))
		ceil = nearest(f, isNeg(f, a), ceilOf(value(f, a)))
	}
	if x, e := Floor(f, a); x != floor || e != api.OK {
		t.Errorf("Floor(%v, %x) = %x, %d, not %x", f, a, x, e, floor)
	}
	if x, e := Ceil(f, a); x != ceil || e != api.OK {
		t.Errorf("Ceil(%v, %x) = %x, %d, not %x", f, a, x, e, ceil)
	}
}

// checkWhole holds whole numbers against exact ones.
func checkWhole(t *testing.T, f api.Format, a uint64) {
	t.Helper()
	for _, near := range []bool{false, true} {
		want := uint64(1) << 40
		if isFinite(f, a) {
			v := value(f, a)
			v.Abs(v)
			if near {
				v.Add(v, big.NewRat(1, 2))
			}
			if n := floorOf(v).Num(); n.Cmp(big.NewInt(1<<40)) < 0 {
				want = n.Uint64()
			}
		}
		if n, neg, e := Whole(f, a, near); n != want || neg != isNeg(f, a) || e != api.OK {
			t.Errorf("Whole(%v, %x, %v) = %d, %v, %d, not %d", f, a, near, n, neg, e, want)
		}
	}
}

// edgePatterns are zeros, the numbers around which fields change, those about 1, infinities, and
// what is no number, with both signs.
func edgePatterns(f api.Format) []uint64 {
	one := uint64(1) << f.Mant
	unit := uint64(biasOf(f)) << f.Mant
	inf := infinite(f)
	half := []uint64{
		0, 1, 2, 3, one - 1, one, one + 1, 2*one - 1, 2 * one, unit - 1, unit, unit + 1, unit + one/2,
		inf - one, inf - 2, inf - 1, inf, inf + 1, none(f), top(f) - 1,
	}
	var all []uint64
	for _, x := range half {
		all = append(all, x, x+top(f))
	}
	return all
}

// someNumber is a pattern of a format, drawn so that long rows of equal bits, and fields that are near
// to one another, are not seldom.
func someNumber(r *rand.Rand, f api.Format) uint64 {
	x := r.Uint64() & last(f)
	fraction := uint64(1) << f.Mant
	if r.Intn(3) == 0 {
		x &^= 1<<r.Intn(f.Mant+1) - 1
	}
	if r.Intn(3) == 0 {
		x |= 1<<r.Intn(f.Mant+1) - 1
	}
	if r.Intn(3) == 0 {
		field := uint64(biasOf(f)+r.Intn(f.Mant+2)) % (1 << f.Exp)
		x = x&top(f) | field*fraction | x%fraction
	}
	return x
}
