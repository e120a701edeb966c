package soft

import (
	"math/bits"

	"grotto/api"
	"grotto/round"
)

// openBoth: what two patterns of one format say.
func openBoth(f api.Format, a, b uint64) (p, q api.Parts, e api.Errno) {
	p, e = round.Open(f, a)
	if e != api.OK {
		return api.Parts{}, api.Parts{}, e
	}
	q, e = round.Open(f, b)
	if e != api.OK {
		return api.Parts{}, api.Parts{}, e
	}
	return p, q, api.OK
}

// either: is one of the two of this kind?
func either(p, q api.Parts, kind int) bool {
	return p.Kind == kind || q.Kind == kind
}

// both: are the two of this kind?
func both(p, q api.Parts, kind int) bool {
	return p.Kind == kind && q.Kind == kind
}

// signBit: the highest bit of a pattern; 0 of a format that may not be.
func signBit(f api.Format) uint64 {
	return round.Zero(f, true)
}

// rank: a number that is greater where a pattern's number is, and the same of both zeros.
func rank(f api.Format, x uint64) int64 {
	// Without their signs patterns stand in the order of their numbers.
	size := int64(x &^ signBit(f))
	if x&signBit(f) != 0 {
		return -size
	}
	return size
}

// sum: of two finite numbers the nearest to their sum.
func sum(f api.Format, p, q api.Parts) (uint64, api.Errno) {
	// The greater unit is that of the greater number, since only numbers with the least unit
	// have no bit at the top.
	if p.E < q.E || p.E == q.E && p.M < q.M {
		p, q = q, p
	}
	apart := p.E - q.E
	// So far apart that the smaller one is less than a quarter of the greater one's unit: it is lost.
	if apart > 63 {
		return round.Pack(f, p.Neg, 0, p.M, p.E, false)
	}
	hi, lo := bits.Mul64(p.M, 1<<apart)
	if p.Neg == q.Neg {
		low, carry := bits.Add64(lo, q.M, 0)
		return round.Pack(f, p.Neg, hi+carry, low, q.E, false)
	}
	low, borrow := bits.Sub64(lo, q.M, 0)
	high := hi - borrow
	// A difference that is nothing has no sign.
	neg := p.Neg && (high != 0 || low != 0)
	return round.Pack(f, neg, high, low, q.E, false)
}

// shiftDown: a number n bits lower, and whether something was cut off.
func shiftDown(x uint64, n int) (uint64, bool) {
	y := x >> n
	return y, y<<n != x
}

// quotient: of two finite numbers, with at least 63 bits, in units of 2 to the power scale, and
// whether it is a little more.
func quotient(p, q api.Parts) (quo uint64, scale int, more bool) {
	upP, upQ := bits.LeadingZeros64(p.M), bits.LeadingZeros64(q.M)
	high, low := p.M<<upP, q.M<<upQ
	// 63 bits and not 64: the upper word must be below the divisor.
	quo, left := bits.Div64(high>>1, high<<63, low)
	return quo, (p.E - upP) - (q.E - upQ) - 63, left != 0
}

// squareRoot: of a finite number above 0, with 64 bits, in units of 2 to the power scale, and
// whether it is a little more.
func squareRoot(p api.Parts) (root uint64, scale int, more bool) {
	up := bits.LeadingZeros64(p.M)
	// An even power can be halved.
	if (p.E-up)&1 != 0 {
		up--
	}
	square := p.M << up
	// The number is square times 2^64: its root is looked for bit by bit.
	for bit := uint64(1 << 63); bit != 0; bit >>= 1 {
		hi, lo := bits.Mul64(root|bit, root|bit)
		if hi < square || hi == square && lo == 0 {
			root |= bit
		}
	}
	hi, lo := bits.Mul64(root, root)
	return root, (p.E - up - 64) / 2, hi != square || lo != 0
}

// wholeQuotient: how many times b goes into a times 2 to the power n, in units of 2 to the power
// scale, whether these times are a little more than so many units, and what is left of a.
func wholeQuotient(a, b uint64, n int) (times uint64, scale int, more bool, left uint64) {
	times, left = a/b, a%b
	for range n {
		left <<= 1
		digit := uint64(0)
		if left >= b {
			left -= b
			digit = 1
		}
		// The times alone are rounded: what is left has no part in more.
		if times>>63 == 0 {
			times = times<<1 | digit
			continue
		}
		scale++
		more = more || digit == 1
	}
	return times, scale, more, left
}

// wholeBeside: the nearest pattern to the next whole number, downwards or upwards.
func wholeBeside(f api.Format, a uint64, down bool) (uint64, api.Errno) {
	p, e := round.Open(f, a)
	switch {
	case e != api.OK:
		return 0, e
	case p.Kind == api.PartNaN:
		return round.NaN(f), api.OK
	case p.Kind != api.PartFinite, p.E >= 0:
		return a, api.OK
	}
	n, behind := shiftDown(p.M, -p.E)
	// Away from 0: a number below 0 goes down so, one above it up.
	if behind && p.Neg == down {
		n++
	}
	return round.Pack(f, p.Neg, 0, n, 0, false)
}

// wholePart: a finite number without its sign, as a whole number that is at most MaxWhole.
func wholePart(p api.Parts, near bool) uint64 {
	if p.E >= 0 {
		// Told by its length: shifted up it might not fit a word.
		if bits.Len64(p.M)+p.E > 64 {
			return api.MaxWhole
		}
		return min(p.M<<p.E, api.MaxWhole)
	}
	n := p.M >> -p.E
	// The first bit behind the point is a half.
	if near && p.M>>(-p.E-1)&1 == 1 {
		n++
	}
	return min(n, api.MaxWhole)
}
