package reals

import (
	"math"
	"math/big"
	"math/rand"

	"grotto/api"
)

// form is one of the two, singles or doubles, with its calls in patterns of 64 bits, so that what
// is tested of both is written once.
type form struct {
	name   string
	f      api.Format
	reckon func(op int, a, b uint64) (uint64, api.Errno)
	of     func(n uint32) uint64
	toInt  func(x uint64, near bool) uint32
	holds  func(cond int, a, b, tol uint64) bool
	// What the machine's own floating point says.
	number  func(x uint64) float64
	pattern func(v float64) uint64
	nearest func(v *big.Rat) float64
	root    func(v float64) float64
}

// forms are singles and doubles.
func forms() []form {
	return []form{
		{
			name: "Single",
			f:    api.Format{Mant: 23, Exp: 8},
			reckon: func(op int, a, b uint64) (uint64, api.Errno) {
				x, e := Single(op, uint32(a), uint32(b))
				return uint64(x), e
			},
			of:      func(n uint32) uint64 { return uint64(SingleOf(n)) },
			toInt:   func(x uint64, near bool) uint32 { return SingleInt(uint32(x), near) },
			holds:   func(cond int, a, b, tol uint64) bool { return SingleHolds(cond, uint32(a), uint32(b), uint32(tol)) },
			number:  func(x uint64) float64 { return float64(math.Float32frombits(uint32(x))) },
			pattern: func(v float64) uint64 { return uint64(math.Float32bits(float32(v))) },
			nearest: func(v *big.Rat) float64 { x, _ := v.Float32(); return float64(x) },
			root:    func(v float64) float64 { return float64(float32(math.Sqrt(v))) },
		},
		{
			name:    "Double",
			f:       api.Format{Mant: 52, Exp: 11},
			reckon:  Double,
			of:      DoubleOf,
			toInt:   DoubleInt,
			holds:   DoubleHolds,
			number:  math.Float64frombits,
			pattern: math.Float64bits,
			nearest: func(v *big.Rat) float64 { x, _ := v.Float64(); return x },
			root:    math.Sqrt,
		},
	}
}

// sign is a pattern's highest bit.
func (m form) sign() uint64 {
	return 1 << (m.f.Mant + m.f.Exp)
}

// infinity is the pattern of it, without a sign.
func (m form) infinity() uint64 {
	return (1<<m.f.Exp - 1) << m.f.Mant
}

// none is the pattern of what is no number that is answered.
func (m form) none() uint64 {
	return m.infinity() + 1<<(m.f.Mant-1)
}

// isNaN is whether a pattern is no number.
func (m form) isNaN(x uint64) bool {
	return x&^m.sign() > m.infinity()
}

// isInf is whether a pattern is infinite.
func (m form) isInf(x uint64) bool {
	return x&^m.sign() == m.infinity()
}

// patternOf is the pattern of a number of the machine's that the form has; of what is no number
// the one that is answered.
func (m form) patternOf(v float64) uint64 {
	if math.IsNaN(v) {
		return m.none()
	}
	return m.pattern(v)
}

// edges are the patterns where something might go wrong, with both signs.
func (m form) edges() []uint64 {
	one := uint64(1) << m.f.Mant
	inf := m.infinity()
	all := []uint64{0, 1, 2, 3, one - 1, one, one + 1, inf - 1, inf, inf + 1, m.none(), m.none() + 1, m.sign() - 1}
	for _, v := range []float64{
		0.25, 0.5, 0.75, 1, 1.5, 2, 2.5, 3, 3.5, 7, 10, 1.0 / 3, 1 << 22, 1 << 23, 1<<23 - 0.5, 1 << 24, 1<<24 - 1, 1<<24 + 2,
		1<<31 - 128, 1<<31 - 1, 1<<31 - 0.5, 1 << 31, 1<<31 + 0.5, 1<<31 + 1, 1<<31 + 256, 1 << 32, 1 << 40, 1<<53 - 1, 1 << 53, 1e20, 1e-20, 1e30, 1e-30,
	} {
		x := m.pattern(v)
		all = append(all, x-1, x, x+1)
	}
	for _, x := range all {
		all = append(all, x|m.sign())
	}
	return all
}

// some is a pattern by chance, often near 1 in size.
func (m form) some(r *rand.Rand) uint64 {
	x := r.Uint64() & (m.sign()<<1 - 1)
	if r.Intn(2) == 0 {
		bias := uint64(1)<<(m.f.Exp-1) - 1
		field := bias + uint64(r.Intn(64)) - 32
		x = x&^m.infinity() | field<<m.f.Mant
	}
	return x
}

// somePair is two patterns by chance, often near each other.
func (m form) somePair(r *rand.Rand) (a, b uint64) {
	a, b = m.some(r), m.some(r)
	if r.Intn(4) == 0 {
		b = a ^ uint64(r.Intn(8))
	}
	return a, b
}

// want is what P4.1 asks of two patterns, by the machine's own floating point.
func (m form) want(op int, a, b uint64) uint64 {
	x, y := m.number(a), m.number(b)
	if m.isNaN(a) {
		return m.none()
	}
	switch op {
	case api.RealSqrt:
		return m.patternOf(m.root(x))
	case api.RealCeil:
		return m.patternOf(math.Ceil(x))
	case api.RealFloor:
		return m.patternOf(math.Floor(x))
	}
	switch {
	case m.isNaN(b):
		return m.none()
	case op == api.RealRest:
		return m.patternOf(math.Mod(x, y))
	case op == api.RealQuo:
		return m.wantQuo(a, b)
	}
	return m.wantOfTwo(op, x, y)
}

// wantQuo is the quotient without what is behind its point.
func (m form) wantQuo(a, b uint64) uint64 {
	x, y := m.number(a), m.number(b)
	if m.isInf(a) || y == 0 {
		return m.none()
	}
	neg := (a ^ b) & m.sign()
	if m.isInf(b) {
		return neg
	}
	q := new(big.Rat).Quo(new(big.Rat).SetFloat64(x), new(big.Rat).SetFloat64(y))
	whole := new(big.Rat).SetInt(new(big.Int).Quo(q.Num(), q.Denom()))
	return m.pattern(m.nearest(whole.Abs(whole))) | neg
}

// wantOfTwo is the sum, difference, product or quotient of two that are numbers.
func (m form) wantOfTwo(op int, x, y float64) uint64 {
	v, w := float32(x), float32(y)
	single := m.f.Mant == 23
	switch {
	case op == api.RealAdd && single:
		return m.patternOf(float64(v + w))
	case op == api.RealAdd:
		return m.patternOf(x + y)
	case op == api.RealSub && single:
		return m.patternOf(float64(v - w))
	case op == api.RealSub:
		return m.patternOf(x - y)
	case op == api.RealMul && single:
		return m.patternOf(float64(v * w))
	case op == api.RealMul:
		return m.patternOf(x * y)
	case single:
		return m.patternOf(float64(v / w))
	}
	return m.patternOf(x / y)
}

// wantInt says the second half of P4.2 once more.
func (m form) wantInt(x uint64, near bool) uint32 {
	neg := x&m.sign() != 0
	size := m.number(x &^ m.sign())
	if m.isNaN(x) {
		size = math.Inf(1)
	}
	n := math.Trunc(size)
	// What is behind the point is told exactly: size less its whole part has fewer bits than size.
	if near && size-n >= 0.5 {
		n++
	}
	switch {
	case neg && n >= 1<<31:
		return 1 << 31
	case neg:
		return uint32(-int64(n))
	case n >= 1<<31:
		return 1<<31 - 1
	}
	return uint32(int64(n))
}

// wantHolds says P4.4 once more.
func (m form) wantHolds(cond int, a, b, tol uint64) bool {
	x, y := m.number(a), m.number(b)
	switch cond {
	case api.IsNear:
		return m.wantNear(a, b, tol)
	case api.IsFar:
		return !m.wantNear(a, b, tol)
	case api.IsLt:
		return x < y
	case api.IsLe:
		return x <= y
	case api.IsGt:
		return x > y
	case api.IsGe:
		return x >= y
	case api.IsNaN:
		return math.IsNaN(x)
	case api.IsInf:
		return math.IsInf(x, 0)
	}
	return false
}

// wantNear says IsNear once more.
func (m form) wantNear(a, b, tol uint64) bool {
	if m.isNaN(a) || m.isNaN(b) || m.isNaN(tol) {
		return false
	}
	if m.isInf(a) && m.isInf(b) {
		return a == b
	}
	apart := m.number(m.wantOfTwo(api.RealSub, m.number(a), m.number(b)))
	return math.Abs(apart) <= math.Abs(m.number(tol))
}
