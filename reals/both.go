package reals

import (
	"grotto/api"
	"grotto/round"
	"grotto/soft"
)

// The formats of the two.
var (
	singles = api.Format{Mant: 23, Exp: 8}
	doubles = api.Format{Mant: 52, Exp: 11}
)

// The ends of integers, without their signs.
const (
	mostAbove = 1<<31 - 1
	mostBelow = 1 << 31
)

// holder is what holds a pattern. Each one has just the bits of its format: nothing that it holds
// is refused below, which is why those errors are let go.
type holder interface {
	uint32 | uint64
}

// reckon: what soft answers of two patterns, by op.
func reckon[W holder](f api.Format, op int, a, b W) (W, api.Errno) {
	p, q := uint64(a), uint64(b)
	x, e := uint64(0), api.ErrArg
	switch op {
	case api.RealAdd:
		x, e = soft.Add(f, p, q)
	case api.RealSub:
		x, e = soft.Sub(f, p, q)
	case api.RealMul:
		x, e = soft.Mul(f, p, q)
	case api.RealDiv:
		x, e = soft.Div(f, p, q)
	case api.RealRest:
		x, _, e = soft.Mod(f, p, q)
	case api.RealQuo:
		_, x, e = soft.Mod(f, p, q)
	case api.RealSqrt:
		x, e = soft.Sqrt(f, p)
	case api.RealCeil:
		x, e = soft.Ceil(f, p)
	case api.RealFloor:
		x, e = soft.Floor(f, p)
	}
	return W(x), e
}

// ofInteger: the nearest pattern to a word as an integer.
func ofInteger[W holder](f api.Format, n uint32) W {
	neg := n >= mostBelow
	// Turned round within 32 bits, the least integer is its own size.
	size := n
	if neg {
		size = -n
	}
	x, _ := round.Pack(f, neg, 0, uint64(size), 0, false)
	return W(x)
}

// toInteger: a pattern as an integer, or the end that it is beyond.
func toInteger[W holder](f api.Format, x W, near bool) uint32 {
	n, neg, _ := soft.Whole(f, uint64(x), near)
	if neg {
		return -uint32(min(n, mostBelow))
	}
	return uint32(min(n, mostAbove))
}

// convert: a pattern of one format as one of another.
func convert[To, From holder](f, g api.Format, x From) To {
	y, _ := soft.Convert(f, g, uint64(x))
	return To(y)
}

// holds: does something hold of patterns?
func holds[W holder](f api.Format, cond int, a, b, tol W) bool {
	switch cond {
	case api.IsNear:
		return isNear(f, uint64(a), uint64(b), uint64(tol))
	case api.IsFar:
		return !isNear(f, uint64(a), uint64(b), uint64(tol))
	case api.IsNaN:
		return isKind(f, uint64(a), api.PartNaN)
	case api.IsInf:
		return isKind(f, uint64(a), api.PartInf)
	}
	return isInOrder(f, cond, uint64(a), uint64(b))
}

// isKind: does a pattern say something of this kind?
func isKind(f api.Format, x uint64, kind int) bool {
	p, _ := round.Open(f, x)
	return p.Kind == kind
}

// isNear: are two numbers no further apart than a third one, whatever its sign?
func isNear(f api.Format, a, b, tol uint64) bool {
	if isKind(f, a, api.PartInf) && isKind(f, b, api.PartInf) {
		// Two that are alike are no number apart, and yet as near as can be.
		return a == b && !isKind(f, tol, api.PartNaN)
	}
	apart, _ := soft.Sub(f, a, b)
	order, ok, _ := soft.Cmp(f, withoutSign(f, apart), withoutSign(f, tol))
	// What is no number, be it a, b or tol, has no order.
	return ok && order <= 0
}

// withoutSign: a pattern with the sign 0.
func withoutSign(f api.Format, x uint64) uint64 {
	return x &^ round.Zero(f, true)
}

// isInOrder: do two numbers stand in the order that cond says?
func isInOrder(f api.Format, cond int, a, b uint64) bool {
	order, ok, _ := soft.Cmp(f, a, b)
	if !ok {
		return false
	}
	switch cond {
	case api.IsLt:
		return order < 0
	case api.IsLe:
		return order <= 0
	case api.IsGt:
		return order > 0
	case api.IsGe:
		return order >= 0
	}
	return false
}
