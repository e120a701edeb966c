package reals

import (
	"math"
	"math/rand"
	"testing"

	"grotto/api"
	"grotto/soft"
)

// allOps are what patterns are reckoned by.
func allOps() []int {
	return []int{api.RealAdd, api.RealSub, api.RealMul, api.RealDiv, api.RealRest, api.RealQuo, api.RealSqrt, api.RealCeil, api.RealFloor}
}

// allConds are what may be asked of patterns.
func allConds() []int {
	return []int{api.IsNear, api.IsFar, api.IsLt, api.IsLe, api.IsGt, api.IsGe, api.IsNaN, api.IsInf}
}

// wrongNumbers are neither an op nor a cond.
func wrongNumbers() []int {
	return []int{0, -1, -9, 10, 11, 16, 257, 1 << 32, 1<<32 + 1, math.MaxInt, math.MinInt, math.MinInt + 1}
}

// P4.1

func TestSingle(t *testing.T) {
	for _, c := range []struct {
		op      int
		a, b, x uint32
	}{
		{api.RealAdd, 0x3f800000, 0x3f800000, 0x40000000},
		{api.RealAdd, 0x7f800000, 0xff800000, 0x7fc00000}, {api.RealAdd, 1 << 31, 1 << 31, 1 << 31}, {api.RealAdd, 0, 1 << 31, 0},
		{api.RealSub, 0x3f800000, 0x40000000, 0xbf800000}, {api.RealSub, 0x40000000, 0x3f800000, 0x3f800000},
		{api.RealMul, 0x40400000, 0xc0a00000, 0xc1700000}, {api.RealMul, 0, 0xff800000, 0x7fc00000}, {api.RealMul, 0x7f7fffff, 0x40000000, 0x7f800000},
		{api.RealDiv, 0x3f800000, 0x40400000, 0x3eaaaaab}, {api.RealDiv, 0xbf800000, 0, 0xff800000}, {api.RealDiv, 0, 1 << 31, 0x7fc00000},
		// 7 by -2: 1 is left, -3 times.
		{api.RealRest, 0x40e00000, 0xc0000000, 0x3f800000}, {api.RealQuo, 0x40e00000, 0xc0000000, 0xc0400000},
		{api.RealRest, 0xc0e00000, 0x40000000, 0xbf800000}, {api.RealQuo, 0xc0e00000, 0x40000000, 0xc0400000},
		{api.RealRest, 0x3f800000, 0xff800000, 0x3f800000}, {api.RealQuo, 0x3f800000, 0xff800000, 1 << 31},
		{api.RealRest, 0x3f800000, 0, 0x7fc00000}, {api.RealQuo, 0x3f800000, 0, 0x7fc00000},
		// What is alone in its reckoning: b, be it no number, has no part.
		{api.RealSqrt, 0x40000000, 0xffc00001, 0x3fb504f3}, {api.RealSqrt, 0xbf800000, 0x3f800000, 0x7fc00000}, {api.RealSqrt, 1 << 31, 0x7f800001, 1 << 31},
		{api.RealCeil, 0xbf000000, 0xffc00001, 1 << 31}, {api.RealCeil, 0x3f000000, 0x7fffffff, 0x3f800000},
		{api.RealFloor, 0xbf000000, 0x7fc00000, 0xbf800000}, {api.RealFloor, 0x3f000000, 0xffffffff, 0},
		{api.RealCeil, 0xff800000, 0, 0xff800000}, {api.RealFloor, 0xffffffff, 0, 0x7fc00000},
	} {
		if x, e := Single(c.op, c.a, c.b); x != c.x || e != api.OK {
			t.Errorf("Single(%d, %x, %x) = %x, %d, not %x", c.op, c.a, c.b, x, e, c.x)
		}
	}
}

func TestDouble(t *testing.T) {
	for _, c := range []struct {
		op      int
		a, b, x uint64
	}{
		{api.RealAdd, 0x3ff0000000000000, 0x3ff0000000000000, 0x4000000000000000},
		{api.RealAdd, 0x3ff0000000000000, 0x3ca0000000000001, 0x3ff0000000000001},
		{api.RealSub, 0x7ff0000000000000, 0x7ff0000000000000, 0x7ff8000000000000}, {api.RealSub, 0, 1, 0x8000000000000001},
		{api.RealMul, 0x7fefffffffffffff, 0xc000000000000000, 0xfff0000000000000}, {api.RealMul, 0x8000000000000001, 1, 1 << 63},
		{api.RealDiv, 0x3ff0000000000000, 0x4008000000000000, 0x3fd5555555555555}, {api.RealDiv, 0x3ff0000000000000, 1 << 63, 0xfff0000000000000},
		{api.RealRest, 0x401c000000000000, 0xc000000000000000, 0x3ff0000000000000}, {api.RealQuo, 0x401c000000000000, 0xc000000000000000, 0xc008000000000000},
		{api.RealSqrt, 0x4000000000000000, 0xffffffffffffffff, 0x3ff6a09e667f3bcd}, {api.RealSqrt, 0xfff0000000000000, 0, 0x7ff8000000000000},
		{api.RealCeil, 0xbfe0000000000000, 0x7ff0000000000001, 1 << 63}, {api.RealFloor, 0xbfe0000000000000, 0x7ff0000000000001, 0xbff0000000000000},
	} {
		if x, e := Double(c.op, c.a, c.b); x != c.x || e != api.OK {
			t.Errorf("Double(%d, %x, %x) = %x, %d, not %x", c.op, c.a, c.b, x, e, c.x)
		}
	}
}

// checkReckoned holds all ops of two patterns against the machine's own floating point.
func checkReckoned(t *testing.T, m form, a, b uint64) {
	t.Helper()
	for _, op := range allOps() {
		if x, e := m.reckon(op, a, b); x != m.want(op, a, b) || e != api.OK {
			t.Errorf("%s(%d, %x, %x) = %x, %d, not %x", m.name, op, a, b, x, e, m.want(op, a, b))
		}
	}
}

func TestReckoned(t *testing.T) {
	r := rand.New(rand.NewSource(41))
	for _, m := range forms() {
		for _, a := range m.edges() {
			for _, b := range m.edges() {
				checkReckoned(t, m, a, b)
			}
		}
		for range 20000 {
			a, b := m.somePair(r)
			checkReckoned(t, m, a, b)
		}
	}
}

// softly is what soft answers, by op.
func softly(f api.Format, op int, a, b uint64) (uint64, api.Errno) {
	alone := func(call func(api.Format, uint64) (uint64, api.Errno)) func(api.Format, uint64, uint64) (uint64, api.Errno) {
		return func(f api.Format, a, _ uint64) (uint64, api.Errno) { return call(f, a) }
	}
	rest := func(f api.Format, a, b uint64) (uint64, api.Errno) { x, _, e := soft.Mod(f, a, b); return x, e }
	quo := func(f api.Format, a, b uint64) (uint64, api.Errno) { _, x, e := soft.Mod(f, a, b); return x, e }
	return map[int]func(api.Format, uint64, uint64) (uint64, api.Errno){
		1: soft.Add, 2: soft.Sub, 3: soft.Mul, 4: soft.Div, 5: rest, 6: quo, 7: alone(soft.Sqrt), 8: alone(soft.Ceil), 9: alone(soft.Floor),
	}[op](f, a, b)
}

func TestAsSoft(t *testing.T) {
	r := rand.New(rand.NewSource(42))
	for _, m := range forms() {
		for range 5000 {
			a, b := m.somePair(r)
			for op := 1; op <= 9; op++ {
				want, wantErr := softly(m.f, op, a, b)
				if x, e := m.reckon(op, a, b); x != want || e != wantErr {
					t.Errorf("%s(%d, %x, %x) = %x, %d, soft has %x, %d", m.name, op, a, b, x, e, want, wantErr)
				}
			}
		}
	}
}

func TestWrongOp(t *testing.T) {
	for _, m := range forms() {
		for _, op := range wrongNumbers() {
			for _, a := range []uint64{0, 1, m.pattern(1), m.infinity(), m.none()} {
				if x, e := m.reckon(op, a, m.pattern(2)); x != 0 || e != api.ErrArg {
					t.Errorf("%s(%d, %x, 2) = %x, %d, not 0 and ErrArg", m.name, op, a, x, e)
				}
			}
		}
	}
}

// P4.2

func TestOfInteger(t *testing.T) {
	for _, c := range []struct {
		n      uint32
		single uint32
		double uint64
	}{
		{0, 0, 0}, {1, 0x3f800000, 0x3ff0000000000000}, {1<<32 - 1, 0xbf800000, 0xbff0000000000000}, {10, 0x41200000, 0x4024000000000000},
		{1 << 31, 0xcf000000, 0xc1e0000000000000}, {1<<31 - 1, 0x4f000000, 0x41dfffffffc00000}, {1<<31 + 1, 0xcf000000, 0xc1dfffffffc00000},
		// Middles of two singles go to the even one.
		{1 << 24, 0x4b800000, 0x4170000000000000}, {1<<24 + 1, 0x4b800000, 0x4170000010000000}, {1<<24 + 2, 0x4b800001, 0x4170000020000000},
		{1<<24 + 3, 0x4b800002, 0x4170000030000000}, {-(1<<24 + 1) & (1<<32 - 1), 0xcb800000, 0xc170000010000000},
		{-(1<<24 + 3) & (1<<32 - 1), 0xcb800002, 0xc170000030000000},
		{1<<31 - 64, 0x4f000000, 0x41dffffff0000000}, {1<<31 - 65, 0x4effffff, 0x41dfffffefc00000},
	} {
		if x := SingleOf(c.n); x != c.single {
			t.Errorf("SingleOf(%d) = %x, not %x", int32(c.n), x, c.single)
		}
		if x := DoubleOf(c.n); x != c.double {
			t.Errorf("DoubleOf(%d) = %x, not %x", int32(c.n), x, c.double)
		}
	}
}

// someIntegers are the edges of integers, and integers of every size by chance.
func someIntegers(seed int64) []uint32 {
	r := rand.New(rand.NewSource(seed))
	var all []uint32
	for shift := range 32 {
		for i := range 9 {
			n := uint32(1)<<shift + uint32(i) - 4
			all = append(all, n, -n)
		}
		for range 500 {
			n := r.Uint32() >> shift
			all = append(all, n, -n)
		}
	}
	return all
}

func TestOfIntegers(t *testing.T) {
	for _, n := range someIntegers(43) {
		if x, want := SingleOf(n), math.Float32bits(float32(int32(n))); x != want {
			t.Errorf("SingleOf(%d) = %x, not %x", int32(n), x, want)
		}
		if x, want := DoubleOf(n), math.Float64bits(float64(int32(n))); x != want {
			t.Errorf("DoubleOf(%d) = %x, not %x", int32(n), x, want)
		}
	}
}

func TestSingleInt(t *testing.T) {
	for _, c := range []struct {
		x             uint32
		whole, nearly int32
	}{
		{0, 0, 0}, {1 << 31, 0, 0}, {1, 0, 0}, {0x80000001, 0, 0},
		{0x3f000000, 0, 1}, {0xbf000000, 0, -1}, {0x3effffff, 0, 0}, {0xbeffffff, 0, 0}, {0x3f7fffff, 0, 1}, {0x3f800000, 1, 1},
		{0x40200000, 2, 3}, {0xc0200000, -2, -3}, {0x401fffff, 2, 2}, {0x3fc00000, 1, 2}, {0xbfc00000, -1, -2},
		{0x4effffff, 1<<31 - 128, 1<<31 - 128}, {0x4f000000, 1<<31 - 1, 1<<31 - 1}, {0x4f000001, 1<<31 - 1, 1<<31 - 1}, {0x4f800000, 1<<31 - 1, 1<<31 - 1},
		{0xceffffff, -1<<31 + 128, -1<<31 + 128}, {0xcf000000, -1 << 31, -1 << 31}, {0xcf000001, -1 << 31, -1 << 31}, {0xcf800000, -1 << 31, -1 << 31},
		{0x7f7fffff, 1<<31 - 1, 1<<31 - 1}, {0xff7fffff, -1 << 31, -1 << 31},
		{0x7f800000, 1<<31 - 1, 1<<31 - 1}, {0xff800000, -1 << 31, -1 << 31},
		{0x7fc00000, 1<<31 - 1, 1<<31 - 1}, {0xffc00000, -1 << 31, -1 << 31}, {0x7f800001, 1<<31 - 1, 1<<31 - 1}, {0xffffffff, -1 << 31, -1 << 31},
	} {
		if n := SingleInt(c.x, false); n != uint32(c.whole) {
			t.Errorf("SingleInt(%x, false) = %d, not %d", c.x, int32(n), c.whole)
		}
		if n := SingleInt(c.x, true); n != uint32(c.nearly) {
			t.Errorf("SingleInt(%x, true) = %d, not %d", c.x, int32(n), c.nearly)
		}
	}
}

func TestDoubleInt(t *testing.T) {
	for _, c := range []struct {
		v             float64
		whole, nearly int32
	}{
		{0, 0, 0}, {0.5, 0, 1}, {-0.5, 0, -1}, {0.49999999999999994, 0, 0}, {2.5, 2, 3}, {-2.5, -2, -3}, {-3.75, -3, -4},
		{1<<31 - 1.5, 1<<31 - 2, 1<<31 - 1}, {1<<31 - 1, 1<<31 - 1, 1<<31 - 1}, {1<<31 - 0.5, 1<<31 - 1, 1<<31 - 1}, {1 << 31, 1<<31 - 1, 1<<31 - 1},
		{-1<<31 + 0.75, -1<<31 + 1, -1<<31 + 1}, {-1<<31 + 0.5, -1<<31 + 1, -1 << 31}, {-1 << 31, -1 << 31, -1 << 31}, {-1<<31 - 0.5, -1 << 31, -1 << 31},
		{-1<<31 - 1, -1 << 31, -1 << 31}, {1 << 32, 1<<31 - 1, 1<<31 - 1}, {1<<32 + 1, 1<<31 - 1, 1<<31 - 1}, {-1<<32 - 1, -1 << 31, -1 << 31},
		{1 << 40, 1<<31 - 1, 1<<31 - 1}, {1<<64 + 1<<12, 1<<31 - 1, 1<<31 - 1}, {math.MaxFloat64, 1<<31 - 1, 1<<31 - 1}, {-math.MaxFloat64, -1 << 31, -1 << 31},
		{math.Inf(1), 1<<31 - 1, 1<<31 - 1}, {math.Inf(-1), -1 << 31, -1 << 31},
		{math.Float64frombits(0x7ff8000000000000), 1<<31 - 1, 1<<31 - 1}, {math.Float64frombits(0xfff8000000000000), -1 << 31, -1 << 31},
	} {
		x := math.Float64bits(c.v)
		if n := DoubleInt(x, false); n != uint32(c.whole) {
			t.Errorf("DoubleInt(%v, false) = %d, not %d", c.v, int32(n), c.whole)
		}
		if n := DoubleInt(x, true); n != uint32(c.nearly) {
			t.Errorf("DoubleInt(%v, true) = %d, not %d", c.v, int32(n), c.nearly)
		}
	}
}

func TestInts(t *testing.T) {
	r := rand.New(rand.NewSource(44))
	for _, m := range forms() {
		all := m.edges()
		for range 50000 {
			all = append(all, m.some(r))
		}
		for _, x := range all {
			for _, near := range []bool{false, true} {
				if n, want := m.toInt(x, near), m.wantInt(x, near); n != want {
					t.Errorf("%sInt(%x, %t) = %x, not %x", m.name, x, near, n, want)
				}
			}
		}
	}
}

// P4.3

func TestWiden(t *testing.T) {
	for _, c := range []struct {
		x    uint32
		want uint64
	}{
		{0x3f800000, 0x3ff0000000000000}, {0, 0}, {1 << 31, 1 << 63}, {1, 0x36a0000000000000}, {0x80000001, 0xb6a0000000000000},
		{0x007fffff, 0x380fffffc0000000}, {0x00800000, 0x3810000000000000}, {0x7f7fffff, 0x47efffffe0000000},
		{0x7f800000, 0x7ff0000000000000}, {0xff800000, 0xfff0000000000000},
		{0x7fc00000, 0x7ff8000000000000}, {0xffc00000, 0x7ff8000000000000}, {0x7f800001, 0x7ff8000000000000}, {0xffffffff, 0x7ff8000000000000},
	} {
		if x := Widen(c.x); x != c.want {
			t.Errorf("Widen(%x) = %x, not %x", c.x, x, c.want)
		}
	}
}

func TestNarrow(t *testing.T) {
	for _, c := range []struct {
		x    uint64
		want uint32
	}{
		{0x3ff0000000000000, 0x3f800000}, {0, 0}, {1 << 63, 1 << 31},
		// Doubles that no single tells: middles, and what is beside them.
		{0x3ff0000010000000, 0x3f800000}, {0x3ff0000010000001, 0x3f800001}, {0x3ff0000030000000, 0x3f800002}, {0x3ff000002fffffff, 0x3f800001},
		{0xbff0000010000001, 0xbf800001}, {0x3fb999999999999a, 0x3dcccccd},
		// Too great, and too small.
		{0x47efffffefffffff, 0x7f7fffff}, {0x47effffff0000000, 0x7f800000}, {0xc7effffff0000000, 0xff800000}, {0x7fefffffffffffff, 0x7f800000},
		{0x3690000000000000, 0}, {0x3690000000000001, 1}, {0xb690000000000000, 1 << 31}, {0xb690000000000001, 0x80000001}, {1, 0}, {0x8000000000000001, 1 << 31},
		{0x380fffffe0000000, 0x00800000}, {0x380fffffdfffffff, 0x007fffff},
		{0x7ff0000000000000, 0x7f800000}, {0xfff0000000000000, 0xff800000},
		// Of what is no number the bits that a single would lose have no part either.
		{0x7ff8000000000000, 0x7fc00000}, {0xfff8000000000000, 0x7fc00000}, {0x7ff0000000000001, 0x7fc00000}, {0xffffffffffffffff, 0x7fc00000},
	} {
		if x := Narrow(c.x); x != c.want {
			t.Errorf("Narrow(%x) = %x, not %x", c.x, x, c.want)
		}
	}
}

func TestConverted(t *testing.T) {
	r := rand.New(rand.NewSource(45))
	m, w := forms()[0], forms()[1]
	for range 100000 {
		x := m.some(r)
		if y, want := Widen(uint32(x)), w.patternOf(m.number(x)); y != want {
			t.Errorf("Widen(%x) = %x, not %x", x, y, want)
		}
		wide := w.some(r)
		if r.Intn(2) == 0 {
			// In the reach of singles, at most a little beside one or beside a middle.
			wide = w.patternOf(m.number(x)) + uint64(r.Intn(2))<<28 + uint64(r.Intn(3)) - 1
		}
		if y, want := uint64(Narrow(wide)), m.patternOf(w.number(wide)); y != want {
			t.Errorf("Narrow(%x) = %x, not %x", wide, y, want)
		}
	}
}

// P4.4

func TestSingleHolds(t *testing.T) {
	const one, half, inf, none, minus = 0x3f800000, 0x3f000000, 0x7f800000, 0x7fc00000, 1 << 31
	for _, c := range []struct {
		cond      int
		a, b, tol uint32
		want      bool
	}{
		// The tolerance: as much as they are apart, a little less, its sign left out, nothing.
		{api.IsNear, one, 0x3fc00000, half, true}, {api.IsNear, one, 0x3fc00000, half | minus, true}, {api.IsNear, 0x3fc00000, one, half, true},
		{api.IsNear, one, 0x3fc00000, half - 1, false}, {api.IsNear, one, 0x3fc00000, (half - 1) | minus, false}, {api.IsNear, one, one | minus, half, false},
		{api.IsNear, one, one, 0, true}, {api.IsNear, one, one + 1, 0, false}, {api.IsNear, 0, minus, 0, true}, {api.IsNear, minus, 0, minus, true},
		// The difference is rounded: 2^24 and 1/2 are not 2^24 + 1/2 apart by then.
		{api.IsNear, 0x4b800000, half | minus, 0x4b800000, true},
		// Infinities.
		{api.IsNear, inf, inf, 0, true}, {api.IsNear, inf | minus, inf | minus, 0, true}, {api.IsNear, inf, inf | minus, inf, false}, {api.IsNear, inf | minus, inf, inf, false},
		{api.IsNear, inf, one, inf, true}, {api.IsNear, one, inf | minus, inf | minus, true}, {api.IsNear, inf, one, 0x7f7fffff, false}, {api.IsNear, one, 0, inf, true},
		{api.IsNear, 0x7f7fffff, 0xff7fffff, 0x7f7fffff, false}, {api.IsNear, 0x7f7fffff, 0xff7fffff, inf, true},
		// What is no number, one by one.
		{api.IsNear, none, one, inf, false}, {api.IsNear, one, none, inf, false}, {api.IsNear, one, one, none, false}, {api.IsNear, none, none, none, false},
		{api.IsNear, inf, inf, none, false}, {api.IsNear, inf, inf, 0xffffffff, false}, {api.IsNear, none, none, inf, false},
		{api.IsFar, none, 0, 0, true}, {api.IsFar, 0, none, 0, true}, {api.IsFar, 0, 0, none, true}, {api.IsFar, inf, inf, 0, false}, {api.IsFar, inf, inf, none, true},
		{api.IsFar, inf, inf | minus, inf, true}, {api.IsFar, one, 0x3fc00000, half, false}, {api.IsFar, one, 0x3fc00000, half - 1, true},
		// Orders, in which the tolerance has no part.
		{api.IsLt, one, 0x40000000, none, true}, {api.IsLt, one, one, one, false}, {api.IsLt, minus, 0, one, false}, {api.IsLt, one | minus, 0, 0, true},
		{api.IsLe, one, one, none, true}, {api.IsLe, 0, minus, 0, true}, {api.IsLe, 0x40000000, one, inf, false}, {api.IsLe, inf | minus, 0xff7fffff, 0, true},
		{api.IsGt, 0x40000000, one, none, true}, {api.IsGt, one, one, 0, false}, {api.IsGt, 0, minus, 0, false}, {api.IsGt, inf, 0x7f7fffff, 0, true},
		{api.IsGe, one, one, none, true}, {api.IsGe, minus, 0, 0, true}, {api.IsGe, one, 0x40000000, inf, false}, {api.IsGe, inf, inf, 0, true},
		{api.IsLt, none, one, 0, false}, {api.IsLt, one, none, 0, false}, {api.IsLe, none, none, 0, false}, {api.IsLe, one, none, 0, false},
		{api.IsGt, none, one, 0, false}, {api.IsGt, one, none | minus, 0, false}, {api.IsGe, none, none, 0, false}, {api.IsGe, none | minus, one, 0, false},
		// Of a alone.
		{api.IsNaN, none, 0, 0, true}, {api.IsNaN, 0x7f800001, 0, 0, true}, {api.IsNaN, 0xffffffff, 0, 0, true}, {api.IsNaN, inf, none, none, false}, {api.IsNaN, 0, none, none, false},
		{api.IsInf, inf, none, none, true}, {api.IsInf, inf | minus, 0, 0, true}, {api.IsInf, none, inf, inf, false}, {api.IsInf, 0x7f7fffff, inf, inf, false}, {api.IsInf, 0, inf, inf, false},
	} {
		if is := SingleHolds(c.cond, c.a, c.b, c.tol); is != c.want {
			t.Errorf("SingleHolds(%d, %x, %x, %x) = %t", c.cond, c.a, c.b, c.tol, is)
		}
	}
}

func TestDoubleHolds(t *testing.T) {
	const one, inf, none, minus = 0x3ff0000000000000, 0x7ff0000000000000, 0x7ff8000000000000, 1 << 63
	for _, c := range []struct {
		cond      int
		a, b, tol uint64
		want      bool
	}{
		{api.IsNear, one, one + 1, 0x3cb0000000000000, true}, {api.IsNear, one, one + 1, 0xbcb0000000000000, true}, {api.IsNear, one, one + 1, 0x3cafffffffffffff, false},
		{api.IsNear, inf, inf, 0, true}, {api.IsNear, inf, inf | minus, inf, false}, {api.IsNear, inf, 0, inf, true}, {api.IsNear, inf, inf, none, false},
		{api.IsFar, none, 0, 0, true}, {api.IsFar, one, one, minus, false}, {api.IsFar, inf, inf, 0, false},
		{api.IsLt, one, one + 1, 0, true}, {api.IsLt, 0, minus, 0, false}, {api.IsLe, 0, minus, 0, true}, {api.IsGt, one + 1, one, 0, true}, {api.IsGe, minus, 0, none, true},
		{api.IsLe, none, none, 0, false}, {api.IsGe, one, 0x7ff0000000000001, 0, false},
		{api.IsNaN, 0x7ff0000000000001, 0, 0, true}, {api.IsNaN, inf, none, none, false}, {api.IsInf, inf | minus, 0, 0, true}, {api.IsInf, none, inf, 0, false},
		// The words of singles are small doubles.
		{api.IsInf, 0x7f800000, 0, 0, false}, {api.IsNaN, 0x7fc00000, 0, 0, false},
	} {
		if is := DoubleHolds(c.cond, c.a, c.b, c.tol); is != c.want {
			t.Errorf("DoubleHolds(%d, %x, %x, %x) = %t", c.cond, c.a, c.b, c.tol, is)
		}
	}
}

// checkHolds holds all conds of three patterns against the machine's own floating point.
func checkHolds(t *testing.T, m form, a, b, tol uint64) {
	t.Helper()
	for _, cond := range allConds() {
		if is, want := m.holds(cond, a, b, tol), m.wantHolds(cond, a, b, tol); is != want {
			t.Errorf("%sHolds(%d, %x, %x, %x) = %t, not %t", m.name, cond, a, b, tol, is, want)
		}
	}
}

func TestHolds(t *testing.T) {
	r := rand.New(rand.NewSource(46))
	for _, m := range forms() {
		edges := m.edges()
		for _, a := range edges {
			for _, b := range edges {
				apart := m.want(api.RealSub, a, b)
				for _, tol := range []uint64{0, apart, apart ^ m.sign(), apart - 1, apart + 1, edges[r.Intn(len(edges))]} {
					checkHolds(t, m, a, b, tol&(m.sign()<<1-1))
				}
			}
		}
		for range 50000 {
			a, b := m.somePair(r)
			checkHolds(t, m, a, b, m.some(r))
		}
	}
}

func TestWrongCond(t *testing.T) {
	for _, m := range forms() {
		for _, cond := range append(wrongNumbers(), 9) {
			for _, a := range m.edges() {
				for _, b := range []uint64{0, m.pattern(1), a, m.infinity(), m.none()} {
					if m.holds(cond, a, b, m.infinity()) {
						t.Errorf("%sHolds(%d, %x, %x, infinity) holds", m.name, cond, a, b)
					}
				}
			}
		}
	}
}

// P4.5

func TestWords(t *testing.T) {
	for _, c := range []struct {
		x      uint64
		hi, lo uint32
	}{
		{0, 0, 0}, {1, 0, 1}, {1 << 32, 1, 0}, {1<<32 | 5, 1, 5}, {1<<64 - 1, 1<<32 - 1, 1<<32 - 1}, {1<<32 - 1, 0, 1<<32 - 1}, {1 << 63, 1 << 31, 0}, {1 << 31, 0, 1 << 31},
		{0x0123456789abcdef, 0x01234567, 0x89abcdef}, {0x7ff8000000000001, 0x7ff80000, 1},
	} {
		if hi, lo := Split(c.x); hi != c.hi || lo != c.lo {
			t.Errorf("Split(%x) = %x, %x, not %x, %x", c.x, hi, lo, c.hi, c.lo)
		}
		if x := Join(c.hi, c.lo); x != c.x {
			t.Errorf("Join(%x, %x) = %x, not %x", c.hi, c.lo, x, c.x)
		}
	}
	r := rand.New(rand.NewSource(47))
	for range 1000 {
		x := r.Uint64()
		if y := Join(Split(x)); y != x {
			t.Errorf("Join of Split(%x) = %x", x, y)
		}
	}
}
