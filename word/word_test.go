package word

import (
	"bytes"
	"math"
	"math/big"
	"math/rand"
	"strconv"
	"strings"
	"testing"

	"grotto/api"
)

// neg is the word that says -n.
func neg(n uint32) uint32 { return -n }

// edges are words around which rules change.
func edges() []uint32 {
	return []uint32{
		0, 1, 2, 3, 7, 10, 31, 32, 33, 0x7f, 0x80, 0x81, 0xff, 0x100, 0x101, 0x1ff,
		0x7fff, 0x8000, 0x8001, 0xffff, 0x10000, 0xff80, 0x7f80,
		1<<31 - 2, 1<<31 - 1, 1 << 31, 1<<31 + 1, 1<<31 + 2,
		1<<32 - 257, 1<<32 - 256, 1<<32 - 255, 1<<32 - 7, 1<<32 - 3, 1<<32 - 2, 1<<32 - 1,
	}
}

// samples are the edges, and words from a fixed seed.
func samples() []uint32 {
	r := rand.New(rand.NewSource(1))
	all := edges()
	for range 100 {
		all = append(all, r.Uint32()>>r.Intn(32))
	}
	return all
}

// signed is x in two's complement, told apart from what package word does.
func signed(x uint32) int64 {
	if x >= 1<<31 {
		return int64(x) - 1<<32
	}
	return int64(x)
}

// asWord is n modulo 2^32.
func asWord(n *big.Int) uint32 {
	m := new(big.Int).Mod(n, big.NewInt(1<<32))
	return uint32(m.Uint64())
}

// P1.1

func TestBe(t *testing.T) {
	b := []byte{0x01, 0x82, 0xff, 0x04, 0xfe}
	for _, c := range []struct {
		at, n int
		x     uint32
		e     api.Errno
	}{
		{0, 1, 0x01, api.OK}, {1, 1, 0x82, api.OK}, {4, 1, 0xfe, api.OK},
		{0, 2, 0x0182, api.OK}, {2, 2, 0xff04, api.OK}, {3, 2, 0x04fe, api.OK},
		{0, 4, 0x0182ff04, api.OK}, {1, 4, 0x82ff04fe, api.OK},
		{5, 1, 0, api.ErrShort}, {4, 2, 0, api.ErrShort}, {2, 4, 0, api.ErrShort},
		{6, 1, 0, api.ErrShort}, {100, 4, 0, api.ErrShort},
		{math.MaxInt, 1, 0, api.ErrShort}, {math.MaxInt, 4, 0, api.ErrShort}, {math.MaxInt - 3, 4, 0, api.ErrShort},
		{-1, 1, 0, api.ErrArg}, {-4, 4, 0, api.ErrArg}, {math.MinInt, 2, 0, api.ErrArg},
		{0, 0, 0, api.ErrArg}, {0, 3, 0, api.ErrArg}, {0, 5, 0, api.ErrArg}, {0, 8, 0, api.ErrArg}, {0, -1, 0, api.ErrArg},
		{0, math.MaxInt, 0, api.ErrArg}, {0, math.MinInt, 0, api.ErrArg},
		{100, 3, 0, api.ErrArg}, {5, 0, 0, api.ErrArg}, {-1, 3, 0, api.ErrArg},
	} {
		if x, e := Be(b, c.at, c.n); x != c.x || e != c.e {
			t.Errorf("Be at %d of %d: %x %d, not %x %d", c.at, c.n, x, e, c.x, c.e)
		}
	}
	if !bytes.Equal(b, []byte{0x01, 0x82, 0xff, 0x04, 0xfe}) {
		t.Errorf("Be has changed its bytes: %x", b)
	}
}

func TestBeOfNothing(t *testing.T) {
	for _, b := range [][]byte{nil, {}} {
		if x, e := Be(b, 0, 1); x != 0 || e != api.ErrShort {
			t.Errorf("%x %d", x, e)
		}
		if x, e := Be(b, 0, 0); x != 0 || e != api.ErrArg {
			t.Errorf("%x %d", x, e)
		}
	}
}

func TestBeKeepsToTheLength(t *testing.T) {
	b := []byte{1, 2, 3, 4}[:2]
	if x, e := Be(b, 0, 4); x != 0 || e != api.ErrShort {
		t.Errorf("spare room was read: %x %d", x, e)
	}
}

func TestPut(t *testing.T) {
	for _, c := range []struct {
		x uint32
		n int
		b []byte
	}{
		{258, 4, []byte{0, 0, 1, 2}}, {258, 2, []byte{1, 2}}, {258, 1, []byte{2}},
		{0xfedcba98, 4, []byte{0xfe, 0xdc, 0xba, 0x98}}, {0xfedcba98, 2, []byte{0xba, 0x98}}, {0xfedcba98, 1, []byte{0x98}},
		{0, 4, []byte{0, 0, 0, 0}}, {0, 1, []byte{0}}, {1<<32 - 1, 2, []byte{0xff, 0xff}},
		{7, 0, nil}, {7, 3, nil}, {7, 5, nil}, {7, 8, nil}, {7, -1, nil}, {7, -4, nil}, {7, math.MaxInt, nil}, {7, math.MinInt, nil},
	} {
		if b := Put(c.x, c.n); !bytes.Equal(b, c.b) {
			t.Errorf("Put(%x, %d): %x, not %x", c.x, c.n, b, c.b)
		}
	}
}

func TestPutIsNewMemory(t *testing.T) {
	a := Put(0x01020304, 4)
	b := Put(0x01020304, 4)
	a[0] = 9
	if b[0] != 1 || Put(0x01020304, 4)[0] != 1 {
		t.Error("two answers share memory")
	}
}

// P1.2

func TestDivModCases(t *testing.T) {
	for _, c := range []struct{ a, b, q, r uint32 }{
		{7, 2, 3, 1}, {neg(7), 2, neg(3), neg(1)}, {7, neg(2), neg(3), 1}, {neg(7), neg(2), 3, neg(1)},
		{0, 5, 0, 0}, {4, 5, 0, 4}, {neg(4), 5, 0, neg(4)}, {6, 3, 2, 0}, {neg(6), 3, neg(2), 0},
		{1 << 31, neg(1), 1 << 31, 0}, {1 << 31, 1, 1 << 31, 0}, {1 << 31, 1 << 31, 1, 0},
		{1<<31 - 1, neg(1), 1<<31 + 1, 0}, {1<<31 - 1, 1 << 31, 0, 1<<31 - 1},
		{1 << 31, 2, 0xc0000000, 0}, {1 << 31, 3, neg(715827882), neg(2)},
	} {
		if q, e := Div(c.a, c.b); q != c.q || e != api.OK {
			t.Errorf("Div(%x, %x): %x %d, not %x", c.a, c.b, q, e, c.q)
		}
		if r, e := Mod(c.a, c.b); r != c.r || e != api.OK {
			t.Errorf("Mod(%x, %x): %x %d, not %x", c.a, c.b, r, e, c.r)
		}
	}
}

func TestDivModByZero(t *testing.T) {
	for _, a := range edges() {
		if q, e := Div(a, 0); q != 0 || e != api.ErrZero {
			t.Errorf("Div(%x, 0): %x %d", a, q, e)
		}
		if r, e := Mod(a, 0); r != 0 || e != api.ErrZero {
			t.Errorf("Mod(%x, 0): %x %d", a, r, e)
		}
	}
}

func TestDivModOfMany(t *testing.T) {
	for _, a := range samples() {
		for _, b := range samples() {
			if b == 0 {
				continue
			}
			q, r := new(big.Int).QuoRem(big.NewInt(signed(a)), big.NewInt(signed(b)), new(big.Int))
			if x, e := Div(a, b); x != asWord(q) || e != api.OK {
				t.Fatalf("Div(%x, %x): %x %d", a, b, x, e)
			}
			if x, e := Mod(a, b); x != asWord(r) || e != api.OK {
				t.Fatalf("Mod(%x, %x): %x %d", a, b, x, e)
			}
		}
	}
}

// P1.3

func TestShiftCases(t *testing.T) {
	for _, c := range []struct{ a, n, shl, shr, sar uint32 }{
		{0x80000001, 0, 0x80000001, 0x80000001, 0x80000001},
		{0x80000001, 1, 2, 0x40000000, 0xc0000000},
		{0x40000001, 1, 0x80000002, 0x20000000, 0x20000000},
		{0x12345678, 8, 0x34567800, 0x00123456, 0x00123456},
		{0xf2345678, 8, 0x34567800, 0x00f23456, 0xfff23456},
		{0x80000001, 31, 1 << 31, 1, 1<<32 - 1},
		{0x7fffffff, 31, 1 << 31, 0, 0},
		{0x80000001, 32, 0, 0, 1<<32 - 1},
		{0x7fffffff, 32, 0, 0, 0},
		{0x80000001, 33, 0, 0, 1<<32 - 1},
		{0x80000001, 40, 0, 0, 1<<32 - 1},
		{0x80000001, 64, 0, 0, 1<<32 - 1},
		{0x7fffffff, 1<<32 - 1, 0, 0, 0},
		{0xffffffff, 1<<32 - 1, 0, 0, 1<<32 - 1},
		{0xffffffff, 1 << 31, 0, 0, 1<<32 - 1},
		{0, 5, 0, 0, 0},
	} {
		if x := Shl(c.a, c.n); x != c.shl {
			t.Errorf("Shl(%x, %d): %x, not %x", c.a, c.n, x, c.shl)
		}
		if x := Shr(c.a, c.n); x != c.shr {
			t.Errorf("Shr(%x, %d): %x, not %x", c.a, c.n, x, c.shr)
		}
		if x := Sar(c.a, c.n); x != c.sar {
			t.Errorf("Sar(%x, %d): %x, not %x", c.a, c.n, x, c.sar)
		}
	}
}

func TestShiftsBitByBit(t *testing.T) {
	for _, a := range samples() {
		shl, shr, sar := a, a, a
		for n := range uint32(70) {
			if Shl(a, n) != shl || Shr(a, n) != shr || Sar(a, n) != sar {
				t.Fatalf("%x by %d: %x %x %x", a, n, Shl(a, n), Shr(a, n), Sar(a, n))
			}
			shl *= 2
			shr /= 2
			sar = sar/2 + a&(1<<31)
		}
	}
}

// P1.4

func TestExtend(t *testing.T) {
	for _, c := range []struct {
		x uint32
		n int
		y uint32
	}{
		{0x7f, 1, 0x7f}, {0x80, 1, 0xffffff80}, {0x1ff, 1, 1<<32 - 1}, {0xffffff00, 1, 0}, {0x12345681, 1, 0xffffff81}, {0xffffff7f, 1, 0x7f},
		{0x7fff, 2, 0x7fff}, {0x8000, 2, 0xffff8000}, {0x1ffff, 2, 1<<32 - 1}, {0xffff0000, 2, 0}, {0x12348765, 2, 0xffff8765}, {0x80, 2, 0x80},
		{0x80, 4, 0x80}, {0x80000000, 4, 0x80000000}, {0x80, 0, 0x80}, {0x8080, 3, 0x8080}, {0xff8080, 3, 0xff8080},
		{0x80, -1, 0x80}, {0x8080, 257, 0x8080}, {0x8080, math.MaxInt, 0x8080}, {0x8080, math.MinInt, 0x8080},
	} {
		if y := Extend(c.x, c.n); y != c.y {
			t.Errorf("Extend(%x, %d): %x, not %x", c.x, c.n, y, c.y)
		}
	}
}

// P1.5

func TestHolds(t *testing.T) {
	for _, c := range []struct {
		a, b  uint32
		conds []int
	}{
		{5, 5, []int{api.CondEq, api.CondGe, api.CondLe, api.CondGeu, api.CondLeu}},
		{1 << 31, 1 << 31, []int{api.CondEq, api.CondGe, api.CondLe, api.CondGeu, api.CondLeu}},
		{4, 5, []int{api.CondNe, api.CondLt, api.CondLe, api.CondLtu, api.CondLeu}},
		{5, 4, []int{api.CondNe, api.CondGe, api.CondGt, api.CondGeu, api.CondGtu}},
		{1<<32 - 1, 0, []int{api.CondNe, api.CondLt, api.CondLe, api.CondGeu, api.CondGtu}},
		{0, 1<<32 - 1, []int{api.CondNe, api.CondGe, api.CondGt, api.CondLtu, api.CondLeu}},
		{1 << 31, 1<<31 - 1, []int{api.CondNe, api.CondLt, api.CondLe, api.CondGeu, api.CondGtu}},
		{1<<31 - 1, 1 << 31, []int{api.CondNe, api.CondGe, api.CondGt, api.CondLtu, api.CondLeu}},
		{1 << 31, 1<<32 - 1, []int{api.CondNe, api.CondLt, api.CondLe, api.CondLtu, api.CondLeu}},
	} {
		hold := make(map[int]bool)
		for _, cond := range c.conds {
			hold[cond] = true
		}
		for cond := -20; cond <= 300; cond++ {
			if Holds(cond, c.a, c.b) != hold[cond] {
				t.Errorf("Holds(%d, %x, %x) is not %v", cond, c.a, c.b, hold[cond])
			}
		}
		for _, cond := range []int{math.MinInt, math.MaxInt, 1<<32 + api.CondEq, 1<<32 + api.CondNe} {
			if Holds(cond, c.a, c.b) {
				t.Errorf("Holds(%d, %x, %x)", cond, c.a, c.b)
			}
		}
	}
}

func TestHoldsOfMany(t *testing.T) {
	for _, a := range samples() {
		for _, b := range samples() {
			i, j := signed(a), signed(b)
			want := []bool{false, a == b, a != b, i < j, i >= j, i > j, i <= j, a < b, a >= b, a > b, a <= b, false}
			for cond, w := range want {
				if Holds(cond, a, b) != w {
					t.Fatalf("Holds(%d, %x, %x) is not %v", cond, a, b, w)
				}
			}
		}
	}
}

// P1.6

func TestDecimal(t *testing.T) {
	for _, c := range []struct {
		x uint32
		s string
	}{
		{0, "0"}, {1, "1"}, {9, "9"}, {10, "10"}, {100, "100"}, {1234567890, "1234567890"},
		{neg(1), "-1"}, {neg(10), "-10"}, {neg(42), "-42"},
		{1<<31 - 1, "2147483647"}, {1 << 31, "-2147483648"}, {1<<31 + 1, "-2147483647"},
	} {
		if s := Decimal(c.x); s != c.s {
			t.Errorf("Decimal(%x): %q, not %q", c.x, s, c.s)
		}
		if x, ok := Number(c.s); x != c.x || !ok {
			t.Errorf("Number(%q): %x %v, not %x", c.s, x, ok, c.x)
		}
	}
}

func TestNumberOfWhatIsNone(t *testing.T) {
	for _, s := range []string{
		"", "+", "-", "+1", "-0", "+0", "00", "01", "-01", "000", "--1", "-+1", "1-", "1+",
		" 1", "1 ", "1\n", "\t1", "1 2", "1_000", "1,000", "1.0", "1e3", "0x10", "0b1", "0o7", "a", "1a", "a1", "\x00", "1\x00",
		"2147483648", "-2147483649", "4294967295", "4294967296", "-4294967295", "9223372036854775807", "9223372036854775808", "18446744073709551616",
		"−1", "١", "１", "\xff", "nil", "Inf", "NaN",
		strings.Repeat("1", 1000), strings.Repeat("0", 1000), "-" + strings.Repeat("9", 1000),
	} {
		if x, ok := Number(s); x != 0 || ok {
			t.Errorf("Number(%q): %x %v", s, x, ok)
		}
	}
}

// P1.7

func TestAlign(t *testing.T) {
	for _, c := range []struct {
		x, to, y uint32
		ok       bool
	}{
		{0, 256, 0, true}, {1, 256, 256, true}, {255, 256, 256, true}, {256, 256, 256, true}, {257, 256, 512, true},
		{10, 3, 12, true}, {12, 3, 12, true}, {13, 7, 14, true}, {0, 7, 0, true}, {9, 1, 9, true},
		{0, 0, 0, false}, {1, 0, 0, false}, {1<<32 - 1, 0, 0, false},
		{1<<32 - 1, 1, 1<<32 - 1, true}, {1<<32 - 1, 2, 0, false}, {1<<32 - 2, 2, 1<<32 - 2, true},
		{1<<32 - 256, 256, 1<<32 - 256, true}, {1<<32 - 255, 256, 0, false}, {1<<32 - 1, 256, 0, false},
		{1<<32 - 1, 3, 1<<32 - 1, true}, {1<<32 - 1, 1<<32 - 1, 1<<32 - 1, true}, {1, 1<<32 - 1, 1<<32 - 1, true}, {0, 1<<32 - 1, 0, true},
		{1 << 31, 1 << 31, 1 << 31, true}, {1<<31 + 1, 1 << 31, 0, false}, {1<<32 - 1, 1<<32 - 2, 0, false},
	} {
		if y, ok := Align(c.x, c.to); y != c.y || ok != c.ok {
			t.Errorf("Align(%x, %x): %x %v, not %x %v", c.x, c.to, y, ok, c.y, c.ok)
		}
	}
}

func TestAlignOfMany(t *testing.T) {
	for _, x := range samples() {
		for _, to := range samples() {
			if to == 0 {
				continue
			}
			least := uint64(x)
			if over := uint64(x) % uint64(to); over != 0 {
				least += uint64(to) - over
			}
			y, ok := Align(x, to)
			if ok != (least < 1<<32) || ok && uint64(y) != least || !ok && y != 0 {
				t.Fatalf("Align(%x, %x): %x %v", x, to, y, ok)
			}
		}
	}
}

// P1.8

func TestQuotientAndRest(t *testing.T) {
	for _, a := range samples() {
		for _, b := range samples() {
			if b == 0 {
				continue
			}
			q, _ := Div(a, b)
			r, _ := Mod(a, b)
			if q*b+r != a {
				t.Fatalf("%x is not %x times %x and %x", a, q, b, r)
			}
			if distance(r) >= distance(b) {
				t.Fatalf("Mod(%x, %x): %x is not nearer to 0", a, b, r)
			}
			if r != 0 && (signed(r) < 0) != (signed(a) < 0) {
				t.Fatalf("Mod(%x, %x): %x has another sign", a, b, r)
			}
		}
	}
}

// distance is how far x lies from 0, as an integer.
func distance(x uint32) int64 {
	return max(signed(x), -signed(x))
}

// P1.9

func TestThereAndBack(t *testing.T) {
	lowest := map[int]uint32{1: 0xff, 2: 0xffff, 4: 0xffffffff}
	for _, x := range samples() {
		for n, mask := range lowest {
			b := Put(x, n)
			if y, e := Be(b, 0, n); len(b) != n || y != x&mask || e != api.OK {
				t.Fatalf("Be of Put(%x, %d): %x %d", x, n, y, e)
			}
			b = append([]byte{0xaa}, b...)
			if y, e := Be(append(b, 0xbb), 1, n); y != x&mask || e != api.OK {
				t.Fatalf("Be at 1 of Put(%x, %d): %x %d", x, n, y, e)
			}
		}
		if s := Decimal(x); s != strconv.FormatInt(signed(x), 10) {
			t.Fatalf("Decimal(%x): %q", x, s)
		}
		if y, ok := Number(Decimal(x)); y != x || !ok {
			t.Fatalf("Number of Decimal(%x): %x %v", x, y, ok)
		}
	}
}

// P1.10

func TestJustOneHolds(t *testing.T) {
	pairs := []struct{ below, above, notBelow, notAbove int }{
		{api.CondLt, api.CondGt, api.CondGe, api.CondLe},
		{api.CondLtu, api.CondGtu, api.CondGeu, api.CondLeu},
	}
	for _, a := range samples() {
		for _, b := range samples() {
			for _, p := range pairs {
				if held(a, b, p.below, api.CondEq, p.above) != 1 {
					t.Fatalf("%x and %x: not just one of %v", a, b, p)
				}
				if held(a, b, p.below, p.notBelow) != 1 || held(a, b, p.above, p.notAbove) != 1 {
					t.Fatalf("%x and %x: no opposites in %v", a, b, p)
				}
			}
			if held(a, b, api.CondEq, api.CondNe) != 1 {
				t.Fatalf("%x and %x: equal and not", a, b)
			}
		}
	}
}

// held counts which of the conditions hold.
func held(a, b uint32, conds ...int) int {
	n := 0
	for _, cond := range conds {
		if Holds(cond, a, b) {
			n++
		}
	}
	return n
}
