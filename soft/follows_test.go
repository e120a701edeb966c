package soft

import (
	"math/big"
	"math/rand"
	"testing"

	"grotto/api"
)

// must is an answer of two patterns that are right.
func must(t *testing.T, call func(api.Format, uint64, uint64) (uint64, api.Errno), f api.Format, a, b uint64) uint64 {
	t.Helper()
	x, e := call(f, a, b)
	if e != api.OK {
		t.Fatalf("%v, %x, %x: %d", f, a, b, e)
	}
	return x
}

// mustOne is an answer of one pattern that is right.
func mustOne(t *testing.T, call func(api.Format, uint64) (uint64, api.Errno), f api.Format, a uint64) uint64 {
	t.Helper()
	x, e := call(f, a)
	if e != api.OK {
		t.Fatalf("%v, %x: %d", f, a, e)
	}
	return x
}

// mustConvert is the pattern of another format.
func mustConvert(t *testing.T, f, g api.Format, a uint64) uint64 {
	t.Helper()
	x, e := Convert(f, g, a)
	if e != api.OK {
		t.Fatalf("Convert(%v, %v, %x): %d", f, g, a, e)
	}
	return x
}

// pairs are two patterns each, drawn of every corner format.
func pairs(seed int64, count int, check func(f api.Format, a, b uint64)) {
	r := rand.New(rand.NewSource(seed))
	for _, f := range append(smallFormats(), cornerFormats()...) {
		for range count {
			check(f, someNumber(r, f), someNumber(r, f))
		}
	}
}

// P3.9

func TestEitherWayRound(t *testing.T) {
	pairs(21, 2000, func(f api.Format, a, b uint64) {
		if x, y := must(t, Add, f, a, b), must(t, Add, f, b, a); x != y {
			t.Errorf("Add(%v, %x, %x) = %x, the other way round %x", f, a, b, x, y)
		}
		if x, y := must(t, Mul, f, a, b), must(t, Mul, f, b, a); x != y {
			t.Errorf("Mul(%v, %x, %x) = %x, the other way round %x", f, a, b, x, y)
		}
		if x, y := must(t, Sub, f, a, b), must(t, Add, f, a, b^top(f)); x != y {
			t.Errorf("Sub(%v, %x, %x) = %x, Add with the sign turned %x", f, a, b, x, y)
		}
	})
}

func TestGreaterSummand(t *testing.T) {
	r := rand.New(rand.NewSource(22))
	pairs(23, 2000, func(f api.Format, a, b uint64) {
		c := someNumber(r, f)
		if r.Intn(2) == 0 {
			c = a ^ uint64(r.Intn(4))
		}
		order, ok, e := Cmp(f, a, c)
		if e != api.OK || !ok || order > 0 {
			return
		}
		x, y := must(t, Add, f, a, b), must(t, Add, f, c, b)
		if isNaN(f, x) || isNaN(f, y) {
			return
		}
		if order, ok, e := Cmp(f, x, y); e != api.OK || !ok || order > 0 {
			t.Errorf("%v: %x is not above %x, but with %x %x is above %x", f, a, c, b, x, y)
		}
	})
}

// P3.10

func TestNearDifference(t *testing.T) {
	seen := 0
	two := big.NewRat(2, 1)
	check := func(f api.Format, a, b uint64) {
		if !isFinite(f, a) || !isFinite(f, b) {
			return
		}
		v, w := value(f, a), value(f, b)
		if v.Cmp(new(big.Rat).Mul(w, two)) > 0 || w.Cmp(new(big.Rat).Mul(v, two)) > 0 {
			return
		}
		seen++
		x := must(t, Sub, f, a, b)
		if !isFinite(f, x) || value(f, x).Cmp(v.Sub(v, w)) != 0 {
			t.Errorf("Sub(%v, %x, %x) = %x: not exact", f, a, b, x)
		}
	}
	r := rand.New(rand.NewSource(24))
	pairs(25, 1000, func(f api.Format, a, b uint64) {
		a, b = size(f, a), size(f, b)
		check(f, a, b)
		// About the same, the half, twice as much.
		one := uint64(1) << f.Mant
		near := a ^ r.Uint64()%one
		check(f, a, near)
		check(f, a, size(f, near+one))
		check(f, size(f, near+one), a)
		check(f, a, size(f, a+one))
	})
	if seen < 10000 {
		t.Errorf("no more than %d pairs were near", seen)
	}
}

// P3.11

func TestRootOfSquare(t *testing.T) {
	seen := 0
	for _, f := range append(smallFormats(), cornerFormats()...) {
		r := rand.New(rand.NewSource(26))
		for range 3000 {
			a := size(f, someNumber(r, f))
			square := must(t, Mul, f, a, a)
			// A square with a full fraction, or none: those that are smaller have lost bits.
			if !isFinite(f, square) || square < 1<<f.Mant {
				continue
			}
			seen++
			if x := mustOne(t, Sqrt, f, square); x != a {
				t.Errorf("%v: %x, its square %x, the root of that %x", f, a, square, x)
			}
		}
	}
	if seen < 5000 {
		t.Errorf("no more than %d squares were in the format", seen)
	}
}

// P3.12

func TestReckonedWider(t *testing.T) {
	formats := []api.Format{least, {Mant: 2, Exp: 3}, {Mant: 2, Exp: 9}, {Mant: 3, Exp: 4}, {Mant: 10, Exp: 5}, {Mant: 23, Exp: 4}, single, {Mant: 24, Exp: 9}}
	calls := []func(api.Format, uint64, uint64) (uint64, api.Errno){Add, Sub, Mul, Div}
	r := rand.New(rand.NewSource(27))
	for _, f := range formats {
		for _, g := range []api.Format{double, {Mant: max(8, 2*f.Mant+3), Exp: f.Exp + 2}} {
			for range 4000 {
				a, b := someNumber(r, f), someNumber(r, f)
				wideA, wideB := mustConvert(t, f, g, a), mustConvert(t, f, g, b)
				for i, call := range calls {
					x, y := must(t, call, f, a, b), mustConvert(t, g, f, must(t, call, g, wideA, wideB))
					if x != y {
						t.Errorf("the call %d of %v, %x, %x: %x, by %v %x", i, f, a, b, x, g, y)
					}
				}
				if x, y := mustOne(t, Sqrt, f, a), mustConvert(t, g, f, mustOne(t, Sqrt, g, wideA)); x != y {
					t.Errorf("Sqrt(%v, %x) = %x, by %v %x", f, a, x, g, y)
				}
			}
		}
	}
}

// P3.13

func TestWholeBeside(t *testing.T) {
	r := rand.New(rand.NewSource(28))
	for _, f := range allFormats() {
		if biasOf(f) <= f.Mant {
			continue
		}
		for range 200 {
			a := someNumber(r, f)
			if !isFinite(f, a) {
				continue
			}
			floor, ceil := mustOne(t, Floor, f, a), mustOne(t, Ceil, f, a)
			if !isFinite(f, floor) || !isFinite(f, ceil) {
				t.Fatalf("%v, %x: %x, %x are not finite", f, a, floor, ceil)
			}
			low, v, high := value(f, floor), value(f, a), value(f, ceil)
			if low.Cmp(v) > 0 || high.Cmp(v) < 0 || !low.IsInt() || !high.IsInt() {
				t.Errorf("%v, %x: %x, %x", f, a, floor, ceil)
			}
			between := new(big.Rat).Sub(high, low)
			if v.IsInt() && between.Sign() != 0 || !v.IsInt() && between.Cmp(big.NewRat(1, 1)) != 0 {
				t.Errorf("%v, %x: %x and %x differ by %v", f, a, floor, ceil, between)
			}
		}
	}
}

// P3.14

func TestRestIsSmaller(t *testing.T) {
	pairs(29, 2000, func(f api.Format, a, b uint64) {
		rest, _, e := Mod(f, a, b)
		if e != api.OK {
			t.Fatalf("Mod(%v, %x, %x): %d", f, a, b, e)
		}
		if !isFinite(f, a) || isNaN(f, b) || isZero(f, b) {
			return
		}
		if order, ok, e := Cmp(f, size(f, rest), size(f, b)); order != -1 || !ok || e != api.OK {
			t.Errorf("Mod(%v, %x, %x): what is left is %x", f, a, b, rest)
		}
	})
}
