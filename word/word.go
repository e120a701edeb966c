// Package word is layer 1: see shared/doc/01-word.md.
package word

import (
	"math"
	"strconv"

	"grotto/api"
)

// Be: the word that n bytes say.
func Be(b []byte, at, n int) (uint32, api.Errno) {
	if !isWidth(n) || at < 0 {
		return 0, api.ErrArg
	}
	// Held against the room that is left: at + n could wrap round.
	if n > len(b)-at {
		return 0, api.ErrShort
	}
	var x uint32
	for _, c := range b[at : at+n] {
		x = x<<8 | uint32(c)
	}
	return x, api.OK
}

// Put: the lowest n bytes.
func Put(x uint32, n int) []byte {
	if !isWidth(n) {
		return nil
	}
	b := make([]byte, n)
	for i := n - 1; i >= 0; i-- {
		b[i] = byte(x)
		x >>= 8
	}
	return b
}

// isWidth: is there a number of so many bytes?
func isWidth(n int) bool {
	return n == 1 || n == 2 || n == 4
}

// Div: the quotient, as integers.
func Div(a, b uint32) (uint32, api.Errno) {
	if b == 0 {
		return 0, api.ErrZero
	}
	return uint32(int32(a) / int32(b)), api.OK
}

// Mod: what is left.
func Mod(a, b uint32) (uint32, api.Errno) {
	if b == 0 {
		return 0, api.ErrZero
	}
	return uint32(int32(a) % int32(b)), api.OK
}

// Shl: to the left.
func Shl(a, n uint32) uint32 {
	return a << n
}

// Shr: to the right, 0 coming in.
func Shr(a, n uint32) uint32 {
	return a >> n
}

// Sar: to the right, the highest bit coming in.
func Sar(a, n uint32) uint32 {
	return uint32(int32(a) >> n)
}

// Extend: the lowest bytes as an integer.
func Extend(x uint32, n int) uint32 {
	switch n {
	case 1:
		return uint32(int32(int8(x)))
	case 2:
		return uint32(int32(int16(x)))
	}
	return x
}

// Holds: does a comparison hold?
func Holds(cond int, a, b uint32) bool {
	switch cond {
	case api.CondEq:
		return a == b
	case api.CondNe:
		return a != b
	case api.CondLt:
		return int32(a) < int32(b)
	case api.CondGe:
		return int32(a) >= int32(b)
	case api.CondGt:
		return int32(a) > int32(b)
	case api.CondLe:
		return int32(a) <= int32(b)
	case api.CondLtu:
		return a < b
	case api.CondGeu:
		return a >= b
	case api.CondGtu:
		return a > b
	case api.CondLeu:
		return a <= b
	}
	return false
}

// Decimal: an integer in digits.
func Decimal(x uint32) string {
	return strconv.FormatInt(int64(int32(x)), 10)
}

// Number: digits as an integer.
func Number(s string) (uint32, bool) {
	n, err := strconv.ParseInt(s, 10, 32)
	if err != nil {
		return 0, false
	}
	x := uint32(n)
	// ParseInt also takes +1, 01 and -0, which no word is told as.
	if Decimal(x) != s {
		return 0, false
	}
	return x, true
}

// Align: the least multiple that is not below.
func Align(x, to uint32) (uint32, bool) {
	if to == 0 {
		return 0, false
	}
	// In 64 bits, so that a multiple above the last word is seen.
	step := uint64(to)
	least := (uint64(x) + step - 1) / step * step
	if least > math.MaxUint32 {
		return 0, false
	}
	return uint32(least), true
}
