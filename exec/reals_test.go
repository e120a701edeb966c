package exec

import (
	"math"
	"testing"
)

// singles: no number, infinities, 0 and -0, and others.
func singles() []uint32 {
	l := append(edges(), 0x7fc00000, 0x7f800001, 0xffc00000, 0x7f800000, 0xff800000, 0x00800000, 0x7f7fffff)
	for _, x := range []float32{1, -1, 0.5, 1.5, -2.5, 3, 1e10, -7.25, 0.1, 2147483648, -2147483648, 4294967040} {
		l = append(l, math.Float32bits(x))
	}
	return l
}

// doubles: the same of doubles, each the higher word and the lower one.
func doubles() [][]uint32 {
	l := [][]uint32{{0, 0}, {big, 0}, {0, 1}, {big - 1, top}, {top, top}, {0x7ff80000, 0}, {0x7ff00000, 1}, {0x7ff00000, 0}, {0xfff00000, 0}, {0x7fefffff, top}}
	for _, x := range []float64{1, -1, 0.5, 1.5, -2.5, 3, 1e100, -7.25, 0.1, 2147483647.5, -2147483648, 4294967295} {
		b := math.Float64bits(x)
		l = append(l, []uint32{uint32(b >> 32), uint32(b)})
	}
	return l
}

// noSingle is what a single that is no number is laid as.
const noSingle = 0x7fc00000

// bits32 is the pattern of x, as the machine lays it.
func bits32(x float32) uint32 {
	if x != x {
		return noSingle
	}
	return math.Float32bits(x)
}

// bits64 is the same of a double: its two words.
func bits64(x float64) []uint32 {
	if x != x {
		return []uint32{0x7ff80000, 0}
	}
	b := math.Float64bits(x)
	return []uint32{uint32(b >> 32), uint32(b)}
}

// f32 and f64: the numbers of patterns.
func f32(x uint32) float32   { return math.Float32frombits(x) }
func f64(x []uint32) float64 { return math.Float64frombits(uint64(x[0])<<32 | uint64(x[1])) }

// whole: the integer of x, cut or the nearest one; of what is too great, or no number, the greatest or least.
func whole(x float64, near bool) uint32 {
	if near {
		x = math.Round(x)
	}
	switch {
	case x != x && !math.Signbit(x), x >= 2147483648:
		return big - 1
	case x != x, x < -2147483648:
		return big
	}
	return uint32(int32(math.Trunc(x)))
}

func TestSinglesOfIntegers(t *testing.T) {
	for _, a := range append(edges(), 2, 16777216, 16777217, 16777219, 1<<32-16777217, 1<<32-5) {
		comesTo(t, "numtof", []uint32{a}, bits32(float32(int32(a))))
		comesTo(t, "numtod", []uint32{a}, bits64(float64(int32(a)))...)
	}
}

func TestIntegersOfReals(t *testing.T) {
	for _, a := range singles() {
		comesTo(t, "ftonumz", []uint32{a}, whole(float64(f32(a)), false))
		comesTo(t, "ftonumn", []uint32{a}, whole(float64(f32(a)), true))
	}
	for _, a := range doubles() {
		comesTo(t, "dtonumz", a, whole(f64(a), false))
		comesTo(t, "dtonumn", a, whole(f64(a), true))
	}
}

func TestSinglesOfSingles(t *testing.T) {
	for _, a := range singles() {
		x := f32(a)
		comesTo(t, "ceil", []uint32{a}, bits32(float32(math.Ceil(float64(x)))))
		comesTo(t, "floor", []uint32{a}, bits32(float32(math.Floor(float64(x)))))
		comesTo(t, "sqrt", []uint32{a}, bits32(float32(math.Sqrt(float64(x)))))
		comesTo(t, "ftod", []uint32{a}, bits64(float64(x))...)
		for _, b := range singles() {
			y := f32(b)
			l := []uint32{a, b}
			comesTo(t, "fadd", l, bits32(x+y))
			comesTo(t, "fsub", l, bits32(x-y))
			comesTo(t, "fmul", l, bits32(x*y))
			comesTo(t, "fdiv", l, bits32(x/y))
		}
	}
}

func TestRestsAndQuotientsOfSingles(t *testing.T) {
	for _, x := range []struct{ a, b, rest, quo float32 }{
		{7, 2, 1, 3}, {-7, 2, -1, -3}, {7, -2, 1, -3}, {-7, -2, -1, 3}, {6, 3, 0, 2}, {1, 3, 1, 0}, {5.5, 2, 1.5, 2}, {1, float32(math.Inf(1)), 1, 0},
	} {
		comesTo(t, "fmod", []uint32{bits32(x.a), bits32(x.b)}, bits32(x.rest), bits32(x.quo))
		a, b := bits64(float64(x.a)), bits64(float64(x.b))
		comesTo(t, "dmodr", append(a, b...), bits64(float64(x.rest))...)
		comesTo(t, "dmodq", append(a, b...), bits64(float64(x.quo))...)
	}
	minus0 := uint32(big)
	comesTo(t, "fmod", []uint32{bits32(-6), bits32(3)}, minus0, bits32(-2))
	comesTo(t, "fmod", []uint32{minus0, bits32(3)}, minus0, minus0)
	for _, l := range [][]uint32{{bits32(1), 0}, {bits32(1), minus0}, {0x7f800000, bits32(1)}, {0xff800000, 0x7f800000}, {noSingle, bits32(1)}, {bits32(1), noSingle}} {
		comesTo(t, "fmod", l, noSingle, noSingle)
	}
	// The rest comes first, the quotient then: in the same place the quotient stays.
	m := machine(t, nil, in("fmod", c(bits32(7)), c(bits32(2)), local(0), local(4)), in("fmod", c(bits32(7)), c(bits32(2)), local(8), local(8)), in("fmod", c(bits32(7)), c(bits32(2)), at(0), local(12)))
	steps(t, m, 2)
	hasLocal(t, m, 0, bits32(1))
	hasLocal(t, m, 4, bits32(3))
	hasLocal(t, m, 8, bits32(3))
	m.Step()
	hasLocal(t, m, 12, 0)
}

func TestDoublesOfDoubles(t *testing.T) {
	for _, a := range doubles() {
		x := f64(a)
		comesTo(t, "dceil", a, bits64(math.Ceil(x))...)
		comesTo(t, "dfloor", a, bits64(math.Floor(x))...)
		comesTo(t, "dsqrt", a, bits64(math.Sqrt(x))...)
		comesTo(t, "dtof", a, bits32(float32(x)))
		for _, b := range doubles() {
			y := f64(b)
			l := []uint32{a[0], a[1], b[0], b[1]}
			comesTo(t, "dadd", l, bits64(x+y)...)
			comesTo(t, "dsub", l, bits64(x-y)...)
			comesTo(t, "dmul", l, bits64(x*y)...)
			comesTo(t, "ddiv", l, bits64(x/y)...)
		}
	}
	// The higher word is stored first.
	m := machine(t, nil, in("numtod", c(1), local(0), local(4)), in("numtod", c(1), local(8), local(8)), in("ftod", c(bits32(1)), none, local(12)))
	steps(t, m, 3)
	hasLocal(t, m, 0, 0x3ff00000)
	hasLocal(t, m, 4, 0)
	hasLocal(t, m, 8, 0)
	hasLocal(t, m, 12, 0)
}

func TestJumpsOfSingles(t *testing.T) {
	l := singles()
	for i, a := range l {
		x := f32(a)
		branchesAsIt(t, "jisnan", []uint32{a}, x != x)
		branchesAsIt(t, "jisinf", []uint32{a}, math.IsInf(float64(x), 0))
		for j, b := range l {
			if (i+j)%4 > 0 {
				continue
			}
			y := f32(b)
			branchesAsIt(t, "jflt", []uint32{a, b}, x < y)
			branchesAsIt(t, "jfle", []uint32{a, b}, x <= y)
			branchesAsIt(t, "jfgt", []uint32{a, b}, x > y)
			branchesAsIt(t, "jfge", []uint32{a, b}, x >= y)
			branchesAsIt(t, "jfeq", []uint32{a, b, 0}, x == y)
			branchesAsIt(t, "jfne", []uint32{a, b, 0}, x != y)
		}
	}
}

func TestJumpsOfDoubles(t *testing.T) {
	l := doubles()
	for i, a := range l {
		x := f64(a)
		branchesAsIt(t, "jdisnan", a, x != x)
		branchesAsIt(t, "jdisinf", a, math.IsInf(x, 0))
		for j, b := range l {
			if (i+j)%4 > 0 {
				continue
			}
			y := f64(b)
			four := []uint32{a[0], a[1], b[0], b[1]}
			six := append(four[:4:4], 0, 0)
			branchesAsIt(t, "jdlt", four, x < y)
			branchesAsIt(t, "jdle", four, x <= y)
			branchesAsIt(t, "jdgt", four, x > y)
			branchesAsIt(t, "jdge", four, x >= y)
			branchesAsIt(t, "jdeq", six, x == y)
			branchesAsIt(t, "jdne", six, x != y)
		}
	}
}

func TestNearAndFar(t *testing.T) {
	inf := float32(math.Inf(1))
	nan := float32(math.NaN())
	for _, x := range []struct {
		a, b, by float32
		near     bool
	}{
		{1, 1, 0, true}, {1, 2, 0, false}, {1, 2, 1, true}, {1, 2, -1, true}, {2, 1, 1, true}, {1, 2, 0.5, false}, {1, 2, -0.5, false}, {1, 2, inf, true}, {1, 2, -inf, true},
		{inf, inf, 0, true}, {inf, -inf, inf, false}, {inf, -inf, 0, false}, {inf, 1, inf, true}, {inf, 1, 5, false}, {1, inf, 5, false}, {nan, nan, 0, false}, {nan, 1, inf, false}, {1, nan, inf, false}, {1, 1, nan, false}, {inf, inf, nan, false},
	} {
		branchesAsIt(t, "jfeq", []uint32{bits32(x.a), bits32(x.b), bits32(x.by)}, x.near)
		branchesAsIt(t, "jfne", []uint32{bits32(x.a), bits32(x.b), bits32(x.by)}, !x.near)
		var l []uint32
		for _, y := range []float32{x.a, x.b, x.by} {
			l = append(l, bits64(float64(y))...)
		}
		branchesAsIt(t, "jdeq", l, x.near)
		branchesAsIt(t, "jdne", l, !x.near)
	}
	branchesAsIt(t, "jfeq", []uint32{0, big, 0}, true)
	branchesAsIt(t, "jfne", []uint32{0, big, 0}, false)
	branchesAsIt(t, "jdeq", []uint32{0, 0, big, 0, 0, 0}, true)
	branchesAsIt(t, "jdne", []uint32{0, 0, big, 0, 0, 0}, false)
}
