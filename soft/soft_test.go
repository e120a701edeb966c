package soft

import (
	"math"
	"math/big"
	"math/rand"
	"testing"

	"grotto/api"
)

// pairCase is two patterns, and what is to come of them.
type pairCase struct {
	f       api.Format
	a, b, x uint64
}

// checkCases holds a call against cases that were worked out by hand.
func checkCases(t *testing.T, what string, call func(api.Format, uint64, uint64) (uint64, api.Errno), cases []pairCase) {
	t.Helper()
	for _, c := range cases {
		if x, e := call(c.f, c.a, c.b); x != c.x || e != api.OK {
			t.Errorf("%s(%v, %x, %x) = %x, %d, not %x", what, c.f, c.a, c.b, x, e, c.x)
		}
	}
}

// P3.1

func TestAdd(t *testing.T) {
	checkCases(t, "Add", Add, []pairCase{
		{single, 0x3f800000, 0x3f800000, 0x40000000},
		{single, 0x3f800000, 0xbf800000, 0},
		{single, 0xbf800000, 0x3f800000, 0},
		// Infinities and what is no number.
		{single, 0x7f800000, 0x7f800000, 0x7f800000}, {single, 0xff800000, 0xff800000, 0xff800000},
		{single, 0x7f800000, 0xff800000, 0x7fc00000}, {single, 0xff800000, 0x7f800000, 0x7fc00000},
		{single, 0x7f800000, 0xff7fffff, 0x7f800000}, {single, 0x3f800000, 0xff800000, 0xff800000},
		{single, 0, 0xff800000, 0xff800000}, {single, 0x7f800000, 1 << 31, 0x7f800000},
		{single, 0xff800001, 0x7f800000, 0x7fc00000}, {single, 0, 0xffffffff, 0x7fc00000},
		{single, 0xffc00001, 0xffc00001, 0x7fc00000},
		// Zeros.
		{single, 0, 0, 0}, {single, 0, 1 << 31, 0}, {single, 1 << 31, 0, 0}, {single, 1 << 31, 1 << 31, 1 << 31},
		{single, 0, 1, 1}, {single, 1 << 31, 1, 1}, {single, 0x80000001, 0, 0x80000001}, {single, 0x3f800000, 1 << 31, 0x3f800000},
		// Middles: 1 and 2^-24, and the numbers beside it.
		{single, 0x3f800000, 0x33800000, 0x3f800000}, {single, 0x3f800000, 0x33800001, 0x3f800001},
		{single, 0x3f800000, 0x337fffff, 0x3f800000}, {single, 0x3f800001, 0x33800000, 0x3f800002},
		{single, 0x3f800000, 0xb3000000, 0x3f800000}, {single, 0x3f800000, 0xb3000001, 0x3f7fffff},
		{single, 0x3f800000, 0xb3800000, 0x3f7fffff},
		// The least, the greatest, and far apart.
		{single, 1, 1, 2}, {single, 1, 0x80000001, 0}, {single, 0x007fffff, 1, 0x00800000}, {single, 0x00800000, 0x80000001, 0x007fffff},
		{single, 0x7f7fffff, 0x7f7fffff, 0x7f800000}, {single, 0x7f7fffff, 0x73000000, 0x7f800000},
		{single, 0x7f7fffff, 0x72ffffff, 0x7f7fffff}, {single, 0x7f7fffff, 0x80000001, 0x7f7fffff}, {single, 0x7f7fffff, 1, 0x7f7fffff},
		{double, 0x7fefffffffffffff, 0x8000000000000001, 0x7fefffffffffffff},
		{double, 0x7fe0000000000000, 0x8000000000000001, 0x7fe0000000000000},
		// 2^53 + 1 and 2^53 + 3: middles.
		{double, 0x4340000000000000, 0x3ff0000000000000, 0x4340000000000000},
		{double, 0x4340000000000001, 0x3ff0000000000000, 0x4340000000000002},
		// 7/2 + 1/4 is the middle to 4.
		{least, 11, 1, 12}, {least, 10, 1, 10}, {least, 9, 1, 10}, {least, 27, 17, 28},
	})
}

func TestSub(t *testing.T) {
	checkCases(t, "Sub", Sub, []pairCase{
		{single, 0x3f800000, 0x3f800000, 0}, {single, 0xbf800000, 0xbf800000, 0},
		{single, 0x3f800000, 0xbf800000, 0x40000000}, {single, 0x40000000, 0x40400000, 0xbf800000},
		{single, 0, 0, 0}, {single, 1 << 31, 1 << 31, 0}, {single, 0, 1 << 31, 0}, {single, 1 << 31, 0, 1 << 31},
		{single, 0, 1, 0x80000001}, {single, 0, 0x80000001, 1},
		{single, 0x7f800000, 0x7f800000, 0x7fc00000}, {single, 0x7f800000, 0xff800000, 0x7f800000},
		{single, 0, 0x7f800000, 0xff800000}, {single, 0xff800000, 0x7f800000, 0xff800000},
		{single, 0, 0x7fc00000, 0x7fc00000}, {single, 0x7f800000, 0xffc00000, 0x7fc00000}, {single, 0xffffffff, 0, 0x7fc00000},
		{double, 0x3ff0000000000001, 0x3ff0000000000000, 0x3cb0000000000000},
	})
}

// P3.2

func TestMul(t *testing.T) {
	checkCases(t, "Mul", Mul, []pairCase{
		{single, 0x40400000, 0x40a00000, 0x41700000}, {single, 0xc0400000, 0x40a00000, 0xc1700000}, {single, 0xc0400000, 0xc0a00000, 0x41700000},
		{single, 0x7f800000, 0, 0x7fc00000}, {single, 1 << 31, 0x7f800000, 0x7fc00000}, {single, 0xff800000, 0x7fc00000, 0x7fc00000},
		{single, 0, 0xff800001, 0x7fc00000},
		{single, 0x7f800000, 0xff800000, 0xff800000}, {single, 0xff800000, 0xff800000, 0x7f800000}, {single, 0xbf800000, 0x7f800000, 0xff800000},
		{single, 0, 0xbf800000, 1 << 31}, {single, 1 << 31, 1 << 31, 0}, {single, 1 << 31, 0x3f800000, 1 << 31},
		{single, 0x7f7fffff, 0x40000000, 0x7f800000}, {single, 0x7f7fffff, 0xc0000000, 0xff800000},
		// The least by a half, by a little more, by less: the middle to 0 is 0.
		{single, 1, 0x3f000000, 0}, {single, 1, 0x3f000001, 1}, {single, 1, 0xbf000000, 1 << 31}, {single, 3, 0x3f000000, 2},
		{single, 1, 1, 0}, {single, 1, 0x80000001, 1 << 31},
		// (1 + 2^-12)^2 ends in 2^-24, a middle.
		{single, 0x3f800800, 0x3f800800, 0x3f801000}, {single, 0x3f801800, 0x3f800800, 0x3f802002},
		{double, 0x7fefffffffffffff, 0x7fefffffffffffff, 0x7ff0000000000000}, {double, 1, 0x8000000000000001, 1 << 63},
		{double, 0x7fefffffffffffff, 0x3fefffffffffffff, 0x7feffffffffffffe},
		{least, 5, 5, 6}, {least, 11, 4, 11}, {least, 11, 5, 12}, {least, 1, 2, 0}, {least, 1, 3, 1},
	})
}

func TestDiv(t *testing.T) {
	checkCases(t, "Div", Div, []pairCase{
		{single, 0x3f800000, 0x40400000, 0x3eaaaaab}, {single, 0xbf800000, 0x40400000, 0xbeaaaaab}, {single, 0xbf800000, 0xc0400000, 0x3eaaaaab},
		{single, 0x40000000, 0x40400000, 0x3f2aaaab}, {single, 0x40c00000, 0x40000000, 0x40400000},
		{single, 0x7f800000, 0x7f800000, 0x7fc00000}, {single, 0x7f800000, 0xff800000, 0x7fc00000}, {single, 0, 0, 0x7fc00000}, {single, 1 << 31, 0, 0x7fc00000},
		{single, 0x7fc00001, 0, 0x7fc00000}, {single, 0x7f800000, 0xffc00000, 0x7fc00000},
		{single, 0x7f800000, 0, 0x7f800000}, {single, 0x7f800000, 1 << 31, 0xff800000}, {single, 0xbf800000, 0, 0xff800000}, {single, 0xbf800000, 1 << 31, 0x7f800000},
		{single, 0xff800000, 0x3f800000, 0xff800000},
		{single, 0, 0xff800000, 1 << 31}, {single, 0x3f800000, 0xff800000, 1 << 31}, {single, 0x7f7fffff, 0x7f800000, 0}, {single, 1 << 31, 0xbf800000, 0},
		{single, 1, 0x40000000, 0}, {single, 3, 0x40000000, 2}, {single, 1, 0x3fffffff, 1},
		{single, 0x7f7fffff, 1, 0x7f800000}, {single, 1, 0x7f7fffff, 0}, {single, 0x80000001, 0x7f7fffff, 1 << 31}, {single, 1, 1, 0x3f800000},
		{double, 0x7fefffffffffffff, 1, 0x7ff0000000000000}, {double, 1, 0xffefffffffffffff, 1 << 63}, {double, 1, 3, 0x3fd5555555555555},
		{least, 4, 10, 1}, {least, 7, 10, 2}, {least, 8, 10, 3}, {least, 11, 3, 12},
	})
}

// P3.1, P3.2, P3.4, P3.6: every pair of the patterns of small formats

func TestAllPairs(t *testing.T) {
	for _, f := range smallFormats() {
		for _, a := range patterns(f) {
			for _, b := range patterns(f) {
				checkPair(t, f, a, b)
			}
		}
	}
}

// The same at the edges of formats, and of all formats.

func TestEdgePairs(t *testing.T) {
	for _, f := range cornerFormats() {
		for _, a := range edgePatterns(f) {
			for _, b := range edgePatterns(f) {
				checkPair(t, f, a, b)
			}
		}
	}
}

func TestPairsOfAllFormats(t *testing.T) {
	r := rand.New(rand.NewSource(11))
	for _, f := range allFormats() {
		for range 12 {
			checkPair(t, f, someNumber(r, f), someNumber(r, f))
		}
	}
}

// Sums and differences at every distance of two numbers, where the smaller one is cut off.

func TestAddApart(t *testing.T) {
	for _, f := range []api.Format{{Mant: 2, Exp: 8}, single, double} {
		r := rand.New(rand.NewSource(12))
		one := uint64(1) << f.Mant
		for apart := range min(140, 1<<f.Exp-2) {
			field := uint64(1<<f.Exp-2-r.Intn(3)) * one
			low := field - uint64(min(apart, int(field/one)))*one
			for _, p := range []uint64{0, 1, one - 2, one - 1, one / 2, r.Uint64() % one} {
				for _, q := range []uint64{0, 1, one - 1, one / 2, r.Uint64() % one} {
					a, b := field+p, low+q
					for _, pair := range [][2]uint64{{a, b}, {b, a}, {a + top(f), b}, {a, b + top(f)}} {
						if x, e := Add(f, pair[0], pair[1]); x != wantAdd(f, pair[0], pair[1]) || e != api.OK {
							t.Errorf("Add(%v, %x, %x) = %x, %d", f, pair[0], pair[1], x, e)
						}
					}
				}
			}
		}
	}
}

// P3.1 to P3.5: the machine's own singles and doubles

func TestAsTheMachineDoes(t *testing.T) {
	r := rand.New(rand.NewSource(13))
	for range 60000 {
		a, b := uint32(someNumber(r, single)), uint32(someNumber(r, single))
		checkSingle(t, a, b)
		checkDouble(t, someNumber(r, double), someNumber(r, double))
		// Near to one another.
		near := someNumber(r, double)
		checkDouble(t, near, near^r.Uint64()>>(1+r.Intn(63)))
	}
}

// checkSingle holds what is reckoned of two singles against the machine's answers.
func checkSingle(t *testing.T, a, b uint32) {
	t.Helper()
	x, y := math.Float32frombits(a), math.Float32frombits(b)
	for _, c := range []struct {
		what string
		call func(api.Format, uint64, uint64) (uint64, api.Errno)
		want float32
	}{{"Add", Add, x + y}, {"Sub", Sub, x - y}, {"Mul", Mul, x * y}, {"Div", Div, x / y}} {
		want := uint64(math.Float32bits(c.want))
		if c.want != c.want {
			want = 0x7fc00000
		}
		if z, e := c.call(single, uint64(a), uint64(b)); z != want || e != api.OK {
			t.Errorf("%s(%x, %x) = %x, %d, not %x", c.what, a, b, z, e, want)
		}
	}
	want := uint64(math.Float32bits(float32(math.Sqrt(float64(x)))))
	if x != x || x < 0 {
		want = 0x7fc00000
	}
	if z, e := Sqrt(single, uint64(a)); z != want || e != api.OK {
		t.Errorf("Sqrt(%x) = %x, %d, not %x", a, z, e, want)
	}
}

// doubleBits is a double's pattern, the one that stands for what is no number.
func doubleBits(x float64) uint64 {
	if x != x {
		return 0x7ff8000000000000
	}
	return math.Float64bits(x)
}

// checkDouble likewise with doubles.
func checkDouble(t *testing.T, a, b uint64) {
	t.Helper()
	x, y := math.Float64frombits(a), math.Float64frombits(b)
	for _, c := range []struct {
		what string
		call func(api.Format, uint64, uint64) (uint64, api.Errno)
		want float64
	}{{"Add", Add, x + y}, {"Sub", Sub, x - y}, {"Mul", Mul, x * y}, {"Div", Div, x / y}} {
		if z, e := c.call(double, a, b); z != doubleBits(c.want) || e != api.OK {
			t.Errorf("%s(%x, %x) = %x, %d, not %x", c.what, a, b, z, e, doubleBits(c.want))
		}
	}
	for _, c := range []struct {
		what string
		call func(api.Format, uint64) (uint64, api.Errno)
		want float64
	}{{"Sqrt", Sqrt, math.Sqrt(x)}, {"Floor", Floor, math.Floor(x)}, {"Ceil", Ceil, math.Ceil(x)}} {
		if z, e := c.call(double, a); z != doubleBits(c.want) || e != api.OK {
			t.Errorf("%s(%x) = %x, %d, not %x", c.what, a, z, e, doubleBits(c.want))
		}
	}
	if z, _, e := Mod(double, a, b); z != doubleBits(math.Mod(x, y)) || e != api.OK {
		t.Errorf("Mod(%x, %x) = %x, %d, not %x", a, b, z, e, doubleBits(math.Mod(x, y)))
	}
}

// P3.3

func TestSqrt(t *testing.T) {
	for _, c := range []struct {
		f    api.Format
		a, x uint64
	}{
		{single, 0x40000000, 0x3fb504f3}, {single, 0x40800000, 0x40000000}, {single, 0x3f800000, 0x3f800000}, {single, 0x3e800000, 0x3f000000},
		{single, 0, 0}, {single, 1 << 31, 1 << 31}, {single, 0x7f800000, 0x7f800000},
		{single, 0xff800000, 0x7fc00000}, {single, 0xbf800000, 0x7fc00000}, {single, 0x80000001, 0x7fc00000},
		{single, 0x7f800001, 0x7fc00000}, {single, 0xffc00000, 0x7fc00000},
		{single, 1, 0x1a3504f3}, {single, 2, 0x1a800000}, {single, 0x7f7fffff, 0x5f7fffff},
		{double, 1, 0x1e60000000000000}, {double, 0x7fefffffffffffff, 0x5fefffffffffffff}, {double, 0x3ff0000000000001, 0x3ff0000000000000},
		// The root of 1/4 is 1/2, of 1/2 nearest to 3/4, of 7/2 nearest to 7/4.
		{least, 1, 2}, {least, 2, 3}, {least, 11, 7}, {least, 28, 14},
	} {
		if x, e := Sqrt(c.f, c.a); x != c.x || e != api.OK {
			t.Errorf("Sqrt(%v, %x) = %x, %d, not %x", c.f, c.a, x, e, c.x)
		}
	}
}

// P3.3: numbers whose roots lie as near to the middle of two patterns as may be, on either side

func TestSqrtBesideMiddles(t *testing.T) {
	seen := 0
	for mant := 4; mant <= 52; mant++ {
		for _, f := range []api.Format{{Mant: mant, Exp: 2}, {Mant: mant, Exp: 11}} {
			for d := int64(-79); d <= 81; d += 8 {
				for _, a := range besideSquares(f, d) {
					seen++
					checkSqrt(t, f, a)
				}
			}
		}
	}
	if seen < 1000 {
		t.Errorf("no more than %d such numbers were found", seen)
	}
}

// besideSquares are patterns whose numbers are, but for a power of 4, d less than the square of a middle.
func besideSquares(f api.Format, d int64) []uint64 {
	var all []uint64
	length := f.Mant + 1
	for s := length + 1; s <= length+2; s++ {
		for _, x := range squareRootsOf(d, s) {
			// A middle has one bit more than a pattern's number.
			for ; x>>(length+1) == 0; x += 1 << s {
				square := new(big.Int).SetUint64(x)
				square.Mul(square, square)
				m := square.Sub(square, big.NewInt(d)).Rsh(square, uint(s))
				if x>>length == 0 || m.BitLen() != length {
					continue
				}
				field := uint64(biasOf(f))
				// The power must be an even one away from s.
				if (f.Mant+s)%2 != 0 {
					field++
				}
				all = append(all, field<<f.Mant+m.Uint64()-1<<f.Mant)
			}
		}
	}
	return all
}

// squareRootsOf are the numbers below 2^n whose square is d modulo 2^n, found bit by bit.
func squareRootsOf(d int64, n int) []uint64 {
	roots := []uint64{1, 3, 5, 7}
	for bit := 3; bit < n; bit++ {
		var next []uint64
		for _, x := range roots {
			for _, y := range []uint64{x, x + 1<<bit} {
				if (y*y-uint64(d))<<(63-bit) == 0 {
					next = append(next, y)
				}
			}
		}
		roots = next
	}
	return roots
}

// P3.3, P3.5, P3.7: every pattern of small formats, the edges and some others of all

func TestAllPatterns(t *testing.T) {
	for _, f := range append(smallFormats(), api.Format{Mant: 7, Exp: 4}, api.Format{Mant: 4, Exp: 7}) {
		for _, a := range patterns(f) {
			checkOne(t, f, a)
		}
	}
}

func TestOneOfAllFormats(t *testing.T) {
	r := rand.New(rand.NewSource(14))
	for _, f := range allFormats() {
		for _, a := range edgePatterns(f) {
			checkOne(t, f, a)
		}
		for range 30 {
			checkOne(t, f, someNumber(r, f))
		}
	}
}

// P3.4

func TestMod(t *testing.T) {
	const none = 0x7fc00000
	for _, c := range []struct {
		f               api.Format
		a, b, rest, quo uint64
	}{
		{single, 0x40e00000, 0xc0000000, 0x3f800000, 0xc0400000}, {single, 0xc0e00000, 0x40000000, 0xbf800000, 0xc0400000},
		{single, 0xc0e00000, 0xc0000000, 0xbf800000, 0x40400000}, {single, 0x40e00000, 0x40000000, 0x3f800000, 0x40400000},
		// Nothing is left: a's sign. It goes in not once: the sign of both.
		{single, 0xc0c00000, 0x40400000, 1 << 31, 0xc0000000}, {single, 0x40c00000, 0xc0400000, 0, 0xc0000000},
		{single, 0x3f800000, 0xc0000000, 0x3f800000, 1 << 31}, {single, 0xbf800000, 0xc0000000, 0xbf800000, 0},
		{single, 1 << 31, 0x3f800000, 1 << 31, 1 << 31}, {single, 0, 0xbf800000, 0, 1 << 31}, {single, 0, 0x3f800000, 0, 0},
		{single, 0xbf800000, 0x7f800000, 0xbf800000, 1 << 31}, {single, 0x3f800000, 0x7f800000, 0x3f800000, 0},
		{single, 1 << 31, 0xff800000, 1 << 31, 0}, {single, 0, 0x7f800000, 0, 0},
		{single, 0x7f800000, 0x3f800000, none, none}, {single, 0xff800000, 0x7f800000, none, none}, {single, 0x3f800000, 0, none, none},
		{single, 0, 1 << 31, none, none}, {single, 0xffc00000, 0x3f800000, none, none}, {single, 0x3f800000, 0x7f800001, none, none},
		// Numbers that lie far apart: so many times that it is infinite.
		{single, 0x7f7fffff, 1, 0, 0x7f800000}, {single, 0x7f7fffff, 0x80000001, 0, 0xff800000}, {single, 1, 0x7f7fffff, 1, 0},
		{double, 0x7fefffffffffffff, 3, 2, 0x7ff0000000000000}, {double, 0x7fe0000000000000, 3, 2, 0x7ff0000000000000},
		{double, 0x8000000000000001, 0x7fefffffffffffff, 0x8000000000000001, 1 << 63},
		// 14 times 1/4, which is above all finite numbers.
		{least, 11, 1, 0, 12}, {least, 11, 4, 2, 10}, {least, 11, 3, 2, 12}, {least, 7, 2, 1, 10},
	} {
		rest, quo, e := Mod(c.f, c.a, c.b)
		if rest != c.rest || quo != c.quo || e != api.OK {
			t.Errorf("Mod(%v, %x, %x) = %x, %x, %d, not %x, %x", c.f, c.a, c.b, rest, quo, e, c.rest, c.quo)
		}
	}
}

// The times are rounded, not the quotient: where they lie in the middle of two patterns, what is left
// has no part in which one is taken.
func TestModRoundsTheTimes(t *testing.T) {
	r := rand.New(rand.NewSource(15))
	for _, f := range []api.Format{{Mant: 3, Exp: 5}, {Mant: 10, Exp: 6}, single, double} {
		seen := 0
		for try := 0; seen < 300 && try < 2000000; try++ {
			a, b := someNumber(r, f)%infinite(f), someNumber(r, f)%infinite(f)
			if !inTheMiddle(f, a, b) {
				continue
			}
			seen++
			checkPair(t, f, a, b)
		}
		if seen < 100 {
			t.Errorf("%v: no more than %d middles were found", f, seen)
		}
	}
}

// inTheMiddle is whether a holds b so many times as lies between two patterns, and a bit besides.
func inTheMiddle(f api.Format, a, b uint64) bool {
	if b == 0 || a>>f.Mant <= b>>f.Mant+uint64(f.Mant) || a>>f.Mant > b>>f.Mant+uint64(f.Mant)+8 {
		return false
	}
	n := quotientOf(f, a, b).Num()
	if int(n.TrailingZeroBits()) != n.BitLen()-f.Mant-2 {
		return false
	}
	return new(big.Rat).Mul(new(big.Rat).SetInt(n), value(f, b)).Cmp(value(f, a)) != 0
}

// P3.5

func TestFloorCeil(t *testing.T) {
	for _, c := range []struct {
		f              api.Format
		a, floor, ceil uint64
	}{
		{single, 0xbf000000, 0xbf800000, 1 << 31}, {single, 0x3f000000, 0, 0x3f800000},
		{single, 0, 0, 0}, {single, 1 << 31, 1 << 31, 1 << 31}, {single, 0x7f800000, 0x7f800000, 0x7f800000}, {single, 0xff800000, 0xff800000, 0xff800000},
		{single, 0xffc00001, 0x7fc00000, 0x7fc00000}, {single, 0x7f800001, 0x7fc00000, 0x7fc00000},
		{single, 1, 0, 0x3f800000}, {single, 0x80000001, 0xbf800000, 1 << 31}, {single, 0x3f7fffff, 0, 0x3f800000},
		{single, 0x3f800000, 0x3f800000, 0x3f800000}, {single, 0x3f800001, 0x3f800000, 0x40000000}, {single, 0xbf800001, 0xc0000000, 0xbf800000},
		{single, 0x4b7fffff, 0x4b7fffff, 0x4b7fffff}, {single, 0x4affffff, 0x4afffffe, 0x4b000000}, {single, 0x7f7fffff, 0x7f7fffff, 0x7f7fffff},
		{double, 1, 0, 0x3ff0000000000000}, {double, 0x8000000000000001, 0xbff0000000000000, 1 << 63},
		// Above the last whole number lies none but infinity.
		{least, 11, 10, 12}, {least, 27, 28, 26}, {least, 9, 8, 10}, {least, 3, 0, 4}, {least, 17, 20, 16},
		{api.Format{Mant: 52, Exp: 2}, 3<<52 - 1, 5 << 51, 3 << 52},
	} {
		if x, e := Floor(c.f, c.a); x != c.floor || e != api.OK {
			t.Errorf("Floor(%v, %x) = %x, %d, not %x", c.f, c.a, x, e, c.floor)
		}
		if x, e := Ceil(c.f, c.a); x != c.ceil || e != api.OK {
			t.Errorf("Ceil(%v, %x) = %x, %d, not %x", c.f, c.a, x, e, c.ceil)
		}
	}
}

// P3.6

func TestCmp(t *testing.T) {
	// In their order, those alike in one row.
	order := [][]uint64{
		{0xff800000}, {0xff7fffff}, {0xbf800001}, {0xbf800000}, {0x80800000}, {0x80000001}, {0, 1 << 31},
		{1}, {0x007fffff}, {0x00800000}, {0x3f800000}, {0x3f800001}, {0x7f7fffff}, {0x7f800000},
	}
	for i, row := range order {
		for j, other := range order {
			want := 0
			if i < j {
				want = -1
			} else if i > j {
				want = 1
			}
			for _, a := range row {
				for _, b := range other {
					if c, ok, e := Cmp(single, a, b); c != want || !ok || e != api.OK {
						t.Errorf("Cmp(%x, %x) = %d, %v, %d, not %d", a, b, c, ok, e, want)
					}
				}
			}
		}
		for _, none := range []uint64{0x7f800001, 0x7fc00000, 0xff800001, 0xffffffff} {
			if c, ok, e := Cmp(single, row[0], none); c != 0 || ok || e != api.OK {
				t.Errorf("Cmp(%x, %x) = %d, %v, %d", row[0], none, c, ok, e)
			}
			if c, ok, e := Cmp(single, none, row[0]); c != 0 || ok || e != api.OK {
				t.Errorf("Cmp(%x, %x) = %d, %v, %d", none, row[0], c, ok, e)
			}
			if c, ok, e := Cmp(single, none, none); c != 0 || ok || e != api.OK {
				t.Errorf("Cmp(%x, %x) = %d, %v, %d", none, none, c, ok, e)
			}
		}
	}
}

// P3.7

func TestWhole(t *testing.T) {
	const most = 1 << 40
	for _, c := range []struct {
		f         api.Format
		a         uint64
		cut, near uint64
		neg       bool
	}{
		{single, 0xc0200000, 2, 3, true}, {single, 0x3fc00000, 1, 2, false}, {single, 0x40200000, 2, 3, false}, {single, 0x3fbfffff, 1, 1, false},
		{single, 0x3f000000, 0, 1, false}, {single, 0xbf000000, 0, 1, true}, {single, 0x3effffff, 0, 0, false}, {single, 0x3f7fffff, 0, 1, false},
		{single, 0, 0, 0, false}, {single, 1 << 31, 0, 0, true}, {single, 1, 0, 0, false}, {single, 0x80000001, 0, 0, true},
		{single, 0x7f800000, most, most, false}, {single, 0xff800000, most, most, true}, {single, 0x7fc00000, most, most, false}, {single, 0xff800001, most, most, true},
		{single, 0x7f7fffff, most, most, false}, {single, 0xff7fffff, most, most, true}, {single, 0x4f800000, 1 << 32, 1 << 32, false},
		// MaxWhole, the numbers beside it, and those by which a word is full.
		{single, 0x53800000, most, most, false}, {single, 0x537fffff, most - 1<<16, most - 1<<16, false}, {single, 0x53800001, most, most, false},
		{single, 0x5f800000, most, most, false}, {single, 0x5f7fffff, most, most, false}, {single, 0x5f000000, most, most, false}, {single, 0x53ffffff, most, most, false},
		{double, 0x4270000000000000, most, most, false}, {double, 0x426fffffffffe000, most - 1, most - 1, false},
		{double, 0x426ffffffffff000, most - 1, most, false}, {double, 0x426fffffffffefff, most - 1, most - 1, false},
		{double, 0x426fffffffffffff, most - 1, most, false}, {double, 0x4270000000000800, most, most, false}, {double, 0x4270000000001000, most, most, false},
		{double, 0xc26fffffffffe000, most - 1, most - 1, true}, {double, 0xc280000000000000, most, most, true},
		{double, 0x4340000000000001, most, most, false}, {double, 0x43f0000000000000, most, most, false}, {double, 0x7fefffffffffffff, most, most, false},
		{double, 1, 0, 0, false}, {double, 0x3fdfffffffffffff, 0, 0, false}, {double, 0x3fe0000000000000, 0, 1, false},
		{least, 11, 3, 4, false}, {least, 25, 2, 3, true}, {least, 17, 0, 0, true}, {least, 2, 0, 1, false},
	} {
		if n, neg, e := Whole(c.f, c.a, false); n != c.cut || neg != c.neg || e != api.OK {
			t.Errorf("Whole(%v, %x) = %d, %v, %d, not %d", c.f, c.a, n, neg, e, c.cut)
		}
		if n, neg, e := Whole(c.f, c.a, true); n != c.near || neg != c.neg || e != api.OK {
			t.Errorf("Whole(%v, %x, near) = %d, %v, %d, not %d", c.f, c.a, n, neg, e, c.near)
		}
	}
}

// P3.8

func TestConvert(t *testing.T) {
	for _, c := range []struct {
		f, g api.Format
		a, x uint64
	}{
		{single, double, 0xbf800000, 0xbff0000000000000}, {single, double, 1, 0x36a0000000000000}, {single, double, 0x7f7fffff, 0x47efffffe0000000},
		{single, double, 0x7f800000, 0x7ff0000000000000}, {single, double, 0xff800000, 0xfff0000000000000},
		{single, double, 0, 0}, {single, double, 1 << 31, 1 << 63},
		{single, double, 0x7f800001, 0x7ff8000000000000}, {single, double, 0xffc00000, 0x7ff8000000000000}, {single, single, 0xffffffff, 0x7fc00000},
		{double, single, 0xfff0000000000000, 0xff800000}, {double, single, 1 << 63, 1 << 31}, {double, single, 0xfff0000000000001, 0x7fc00000},
		// Too great, too small, and the middles there.
		{double, single, 0x7fefffffffffffff, 0x7f800000}, {double, single, 0x47efffffefffffff, 0x7f7fffff}, {double, single, 0x47effffff0000000, 0x7f800000},
		{double, single, 1, 0}, {double, single, 0x8000000000000001, 1 << 31}, {double, single, 0x3690000000000000, 0}, {double, single, 0x3690000000000001, 1},
		{double, single, 0x3ff0000010000000, 0x3f800000}, {double, single, 0x3ff0000010000001, 0x3f800001}, {double, single, 0x3ff0000030000000, 0x3f800002},
		{single, least, 0x40600000, 11}, {single, least, 0x40700000, 12}, {single, least, 0xc06fffff, 27}, {single, least, 0x3e000000, 0}, {single, least, 0x3e000001, 1},
		{least, single, 27, 0xc0600000}, {least, least, 27, 27}, {least, double, 13, 0x7ff8000000000000},
	} {
		if x, e := Convert(c.f, c.g, c.a); x != c.x || e != api.OK {
			t.Errorf("Convert(%v, %v, %x) = %x, %d, not %x", c.f, c.g, c.a, x, e, c.x)
		}
	}
}

func TestConvertAll(t *testing.T) {
	r := rand.New(rand.NewSource(16))
	formats := append(smallFormats(), cornerFormats()...)
	for _, f := range formats {
		for _, g := range formats {
			for _, a := range edgePatterns(f) {
				checkConvert(t, f, g, a)
			}
			for range 50 {
				checkConvert(t, f, g, someNumber(r, f))
			}
		}
	}
}

// checkConvert holds a pattern of another format against the exact number.
func checkConvert(t *testing.T, f, g api.Format, a uint64) {
	t.Helper()
	want := none(g)
	if isInf(f, a) {
		want = signed(g, isNeg(f, a), infinite(g))
	} else if isFinite(f, a) {
		want = nearest(g, isNeg(f, a), value(f, a))
	}
	if x, e := Convert(f, g, a); x != want || e != api.OK {
		t.Errorf("Convert(%v, %v, %x) = %x, %d, not %x", f, g, a, x, e, want)
	}
}

// P3.1 to P3.8: what is told with ErrArg

func TestWrongFormats(t *testing.T) {
	for _, f := range wrongFormats() {
		for _, x := range []uint64{0, 1, 0x3f800000, math.MaxUint64} {
			checkRefused(t, f, x, x)
		}
		for _, x := range []uint64{0, 0x3f800000, 0x7f800000, 0x7fc00000, 1 << 31} {
			if y, e := Convert(single, f, x); y != 0 || e != api.ErrArg {
				t.Errorf("Convert(%v, %x) = %x, %d", f, x, y, e)
			}
		}
	}
}

func TestWrongPatterns(t *testing.T) {
	for _, f := range allFormats() {
		for bit := 1 + f.Mant + f.Exp; bit < 64; bit++ {
			for _, good := range []uint64{0, infinite(f), none(f), top(f) + 1} {
				checkRefused(t, f, 1<<bit, good)
				checkRefusedPair(t, f, good, 1<<bit|good)
			}
		}
	}
}

// checkRefused is for a first pattern that is wrong, or a format.
func checkRefused(t *testing.T, f api.Format, a, b uint64) {
	t.Helper()
	checkRefusedPair(t, f, a, b)
	for i, call := range []func(api.Format, uint64) (uint64, api.Errno){Sqrt, Ceil, Floor} {
		if x, e := call(f, a); x != 0 || e != api.ErrArg {
			t.Errorf("the call %d of %v, %x: %x, %d", i, f, a, x, e)
		}
	}
	for _, near := range []bool{false, true} {
		if n, neg, e := Whole(f, a, near); n != 0 || neg || e != api.ErrArg {
			t.Errorf("Whole(%v, %x) = %d, %v, %d", f, a, n, neg, e)
		}
	}
	if x, e := Convert(f, double, a); x != 0 || e != api.ErrArg {
		t.Errorf("Convert(%v, %x) = %x, %d", f, a, x, e)
	}
}

// checkRefusedPair is for two patterns of which one is wrong, or a format.
func checkRefusedPair(t *testing.T, f api.Format, a, b uint64) {
	t.Helper()
	for i, call := range []func(api.Format, uint64, uint64) (uint64, api.Errno){Add, Sub, Mul, Div} {
		if x, e := call(f, a, b); x != 0 || e != api.ErrArg {
			t.Errorf("the call %d of %v, %x, %x: %x, %d", i, f, a, b, x, e)
		}
	}
	if rest, quo, e := Mod(f, a, b); rest != 0 || quo != 0 || e != api.ErrArg {
		t.Errorf("Mod(%v, %x, %x) = %x, %x, %d", f, a, b, rest, quo, e)
	}
	if c, ok, e := Cmp(f, a, b); c != 0 || ok || e != api.ErrArg {
		t.Errorf("Cmp(%v, %x, %x) = %d, %v, %d", f, a, b, c, ok, e)
	}
}
