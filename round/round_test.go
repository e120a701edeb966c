package round

import (
	"math"
	"math/big"
	"math/rand"
	"testing"

	"grotto/api"
)

var (
	single = api.Format{Mant: 23, Exp: 8}
	double = api.Format{Mant: 52, Exp: 11}
	least  = api.Format{Mant: 2, Exp: 2}
)

// smallFormats are those whose patterns can all be gone through quickly.
func smallFormats() []api.Format {
	return []api.Format{{Mant: 2, Exp: 2}, {Mant: 3, Exp: 2}, {Mant: 2, Exp: 3}, {Mant: 4, Exp: 3}, {Mant: 3, Exp: 4}}
}

// allFormats are those that may be.
func allFormats() []api.Format {
	var all []api.Format
	for mant := 2; mant <= 52; mant++ {
		for exp := 2; exp <= 11; exp++ {
			all = append(all, api.Format{Mant: mant, Exp: exp})
		}
	}
	return all
}

// wrongFormats are those that may not be.
func wrongFormats() []api.Format {
	return []api.Format{
		{}, {Mant: 1, Exp: 2}, {Mant: 2, Exp: 1}, {Mant: 53, Exp: 11}, {Mant: 52, Exp: 12}, {Mant: 0, Exp: 8}, {Mant: 23, Exp: 0},
		{Mant: -1, Exp: 8}, {Mant: 23, Exp: -1}, {Mant: 1, Exp: 1}, {Mant: 53, Exp: 12}, {Mant: 8, Exp: 23}, {Mant: 63, Exp: 8},
		{Mant: math.MinInt, Exp: 8}, {Mant: math.MaxInt, Exp: 8}, {Mant: 23, Exp: math.MinInt}, {Mant: 23, Exp: math.MaxInt},
		{Mant: math.MaxInt, Exp: math.MaxInt}, {Mant: math.MinInt, Exp: math.MinInt},
	}
}

// power is 2 to the power e.
func power(e int) *big.Rat {
	if e < 0 {
		return new(big.Rat).SetFrac(big.NewInt(1), new(big.Int).Lsh(big.NewInt(1), uint(-e)))
	}
	return new(big.Rat).SetInt(new(big.Int).Lsh(big.NewInt(1), uint(e)))
}

// wide is hi * 2^64 + lo.
func wide(hi, lo uint64) *big.Int {
	n := new(big.Int).SetUint64(hi)
	n.Lsh(n, 64)
	return n.Or(n, new(big.Int).SetUint64(lo))
}

// words are the two words of a number of at most 128 bits.
func words(n *big.Int) (hi, lo uint64) {
	low := new(big.Int).And(n, new(big.Int).SetUint64(math.MaxUint64))
	return new(big.Int).Rsh(n, 64).Uint64(), low.Uint64()
}

// value is the number that Pack is told.
func value(hi, lo uint64, e int) *big.Rat {
	v := new(big.Rat).SetInt(wide(hi, lo))
	return v.Mul(v, power(e))
}

// pieces takes a pattern apart, field and fraction, without package round.
func pieces(f api.Format, x uint64) (neg bool, field, fraction uint64) {
	for i := range f.Mant {
		fraction += x >> i & 1 << i
	}
	for i := range f.Exp {
		field += x >> (f.Mant + i) & 1 << i
	}
	return x>>(f.Mant+f.Exp)&1 == 1, field, fraction
}

// number is what a finite pattern whose sign is 0 says; the one of infinity comes to 2 to the power bias + 1.
func number(f api.Format, x uint64) *big.Rat {
	_, field, fraction := pieces(f, x)
	biased := 1<<(f.Exp-1) - 1
	if field == 0 {
		return value(0, fraction, 1-biased-f.Mant)
	}
	return value(0, fraction+1<<f.Mant, int(field)-biased-f.Mant)
}

// nearest looks for the pattern among all, with infinity as the next number behind the greatest.
func nearest(f api.Format, v *big.Rat) uint64 {
	var best uint64
	var gap *big.Rat
	for x := uint64(0); x <= Inf(f, false); x++ {
		d := new(big.Rat).Sub(number(f, x), v)
		d.Abs(d)
		if gap == nil || d.Cmp(gap) < 0 || d.Cmp(gap) == 0 && x%2 == 0 {
			best, gap = x, d
		}
	}
	return best
}

// mustPack is Pack of what may be packed.
func mustPack(t *testing.T, f api.Format, neg bool, hi, lo uint64, e int, more bool) uint64 {
	t.Helper()
	x, err := Pack(f, neg, hi, lo, e, more)
	if err != api.OK {
		t.Fatalf("Pack(%v, %v, %x, %x, %d, %v): %d", f, neg, hi, lo, e, more, err)
	}
	return x
}

// P2.1

func TestCheck(t *testing.T) {
	for _, f := range allFormats() {
		if e := Check(f); e != api.OK {
			t.Errorf("Check(%v) = %d", f, e)
		}
	}
	for _, f := range wrongFormats() {
		if e := Check(f); e != api.ErrArg {
			t.Errorf("Check(%v) = %d", f, e)
		}
	}
	for mant := -3; mant < 70; mant++ {
		for exp := -3; exp < 20; exp++ {
			may := mant >= 2 && mant <= 52 && exp >= 2 && exp <= 11
			if e := Check(api.Format{Mant: mant, Exp: exp}); (e == api.OK) != may {
				t.Errorf("Check of %d, %d = %d", mant, exp, e)
			}
		}
	}
}

// P2.1, P2.2

func TestOpen(t *testing.T) {
	for _, c := range []struct {
		f api.Format
		x uint64
		p api.Parts
	}{
		{single, 0x3f800000, api.Parts{Kind: api.PartFinite, E: -23, M: 1 << 23}},
		{single, 0xbf800000, api.Parts{Kind: api.PartFinite, Neg: true, E: -23, M: 1 << 23}},
		{single, 0, api.Parts{Kind: api.PartZero}},
		{single, 1 << 31, api.Parts{Kind: api.PartZero, Neg: true}},
		{single, 1, api.Parts{Kind: api.PartFinite, E: -149, M: 1}},
		{single, 0x007fffff, api.Parts{Kind: api.PartFinite, E: -149, M: 1<<23 - 1}},
		{single, 0x00800000, api.Parts{Kind: api.PartFinite, E: -149, M: 1 << 23}},
		{single, 0x01000000, api.Parts{Kind: api.PartFinite, E: -148, M: 1 << 23}},
		{single, 0x7f7fffff, api.Parts{Kind: api.PartFinite, E: 104, M: 1<<24 - 1}},
		{single, 0x7f800000, api.Parts{Kind: api.PartInf}},
		{single, 0xff800000, api.Parts{Kind: api.PartInf, Neg: true}},
		{single, 0x7f800001, api.Parts{Kind: api.PartNaN}},
		{single, 0x7fc00000, api.Parts{Kind: api.PartNaN}},
		{single, 0xffffffff, api.Parts{Kind: api.PartNaN, Neg: true}},
		{double, 0x3ff0000000000000, api.Parts{Kind: api.PartFinite, E: -52, M: 1 << 52}},
		{double, 1, api.Parts{Kind: api.PartFinite, E: -1074, M: 1}},
		{double, 1 << 63, api.Parts{Kind: api.PartZero, Neg: true}},
		{double, 1<<63 - 1, api.Parts{Kind: api.PartNaN}},
		{double, math.MaxUint64, api.Parts{Kind: api.PartNaN, Neg: true}},
		{double, 0xffefffffffffffff, api.Parts{Kind: api.PartFinite, Neg: true, E: 971, M: 1<<53 - 1}},
		{least, 4, api.Parts{Kind: api.PartFinite, E: -2, M: 4}},
		{least, 3, api.Parts{Kind: api.PartFinite, E: -2, M: 3}},
		{least, 11, api.Parts{Kind: api.PartFinite, E: -1, M: 7}},
		{least, 12, api.Parts{Kind: api.PartInf}},
		{least, 13, api.Parts{Kind: api.PartNaN}},
		{least, 31, api.Parts{Kind: api.PartNaN, Neg: true}},
	} {
		if p, e := Open(c.f, c.x); p != c.p || e != api.OK {
			t.Errorf("Open(%v, %x) = %v, %d, not %v", c.f, c.x, p, e, c.p)
		}
	}
}

func TestOpenAll(t *testing.T) {
	for _, f := range smallFormats() {
		for x := uint64(0); x < 1<<(1+f.Exp+f.Mant); x++ {
			neg, field, fraction := pieces(f, x)
			p, e := Open(f, x)
			if e != api.OK || p.Neg != neg {
				t.Fatalf("Open(%v, %x) = %v, %d", f, x, p, e)
			}
			ones := uint64(1)<<f.Exp - 1
			kind := api.PartFinite
			if field == ones && fraction == 0 {
				kind = api.PartInf
			} else if field == ones {
				kind = api.PartNaN
			} else if field == 0 && fraction == 0 {
				kind = api.PartZero
			}
			if p.Kind != kind {
				t.Fatalf("Open(%v, %x) = %v, not the kind %d", f, x, p, kind)
			}
			if kind != api.PartFinite {
				if p.E != 0 || p.M != 0 {
					t.Fatalf("Open(%v, %x) = %v: E and M", f, x, p)
				}
				continue
			}
			if (field == 0) != (p.M < 1<<f.Mant) || p.M >= 1<<(f.Mant+1) || value(0, p.M, p.E).Cmp(number(f, x)) != 0 {
				t.Fatalf("Open(%v, %x) = %v", f, x, p)
			}
		}
	}
}

func TestOpenAsTheMachineDoes(t *testing.T) {
	r := rand.New(rand.NewSource(2))
	for range 20000 {
		x := r.Uint64()
		v := math.Float64frombits(x)
		p, e := Open(double, x)
		if e != api.OK || p.Neg != math.Signbit(v) {
			t.Fatalf("Open of %x: %v, %d", x, p, e)
		}
		if p.Kind == api.PartFinite && math.Ldexp(float64(p.M), p.E) != math.Abs(v) {
			t.Fatalf("Open of %x: %v", x, p)
		}
	}
}

func TestOpenWrong(t *testing.T) {
	for _, f := range wrongFormats() {
		for _, x := range []uint64{0, 1, 1 << 31, math.MaxUint64} {
			if p, e := Open(f, x); p != (api.Parts{}) || e != api.ErrArg {
				t.Errorf("Open(%v, %x) = %v, %d", f, x, p, e)
			}
		}
	}
	for _, f := range allFormats() {
		top := uint64(1) << (f.Exp + f.Mant)
		if p, e := Open(f, top|(top-1)); p.Kind != api.PartNaN || !p.Neg || e != api.OK {
			t.Errorf("Open(%v) of all bits: %v, %d", f, p, e)
		}
		for bit := 1 + f.Exp + f.Mant; bit < 64; bit++ {
			for _, x := range []uint64{1 << bit, 1<<bit | 1, 1<<bit | top} {
				if p, e := Open(f, x); p != (api.Parts{}) || e != api.ErrArg {
					t.Errorf("Open(%v, %x) = %v, %d", f, x, p, e)
				}
			}
		}
	}
}

// P2.3

func TestSpecial(t *testing.T) {
	for _, c := range []struct {
		f                        api.Format
		nan, inf, negInf, negNil uint64
	}{
		{single, 0x7fc00000, 0x7f800000, 0xff800000, 1 << 31},
		{double, 0x7ff8000000000000, 0x7ff0000000000000, 0xfff0000000000000, 1 << 63},
		{least, 14, 12, 28, 16},
		{api.Format{Mant: 2, Exp: 11}, 0x1ffe, 0x1ffc, 0x3ffc, 0x2000},
		{api.Format{Mant: 52, Exp: 2}, 0x38000000000000, 0x30000000000000, 0x70000000000000, 0x40000000000000},
	} {
		if NaN(c.f) != c.nan || Inf(c.f, false) != c.inf || Inf(c.f, true) != c.negInf || Zero(c.f, true) != c.negNil || Zero(c.f, false) != 0 {
			t.Errorf("%v: %x %x %x %x %x", c.f, NaN(c.f), Inf(c.f, false), Inf(c.f, true), Zero(c.f, true), Zero(c.f, false))
		}
	}
	for _, f := range allFormats() {
		ones := uint64(1)<<f.Exp - 1
		if neg, field, fraction := pieces(f, NaN(f)); neg || field != ones || fraction != 1<<(f.Mant-1) {
			t.Errorf("NaN(%v) = %x", f, NaN(f))
		}
		for _, sign := range []bool{false, true} {
			if neg, field, fraction := pieces(f, Inf(f, sign)); neg != sign || field != ones || fraction != 0 {
				t.Errorf("Inf(%v, %v) = %x", f, sign, Inf(f, sign))
			}
			if neg, field, fraction := pieces(f, Zero(f, sign)); neg != sign || field != 0 || fraction != 0 {
				t.Errorf("Zero(%v, %v) = %x", f, sign, Zero(f, sign))
			}
			for _, x := range []uint64{NaN(f), Inf(f, sign), Zero(f, sign)} {
				if _, e := Open(f, x); e != api.OK {
					t.Errorf("%x has bits above the sign of %v", x, f)
				}
			}
		}
	}
	for _, f := range wrongFormats() {
		if NaN(f) != 0 || Inf(f, false) != 0 || Inf(f, true) != 0 || Zero(f, false) != 0 || Zero(f, true) != 0 {
			t.Errorf("%v has patterns", f)
		}
	}
}

// P2.4

func TestPackExamples(t *testing.T) {
	for _, c := range []struct {
		f      api.Format
		neg    bool
		hi, lo uint64
		e      int
		more   bool
		want   uint64
	}{
		{single, false, 0, 1, 0, false, 0x3f800000},
		{single, true, 0, 1, 0, false, 0xbf800000},
		{single, true, 1, 0, -64, false, 0xbf800000},
		{least, false, 0, 9, -3, false, 4},
		{least, false, 0, 11, -3, false, 6},
		{least, false, 0, 15, -2, false, 12},
		{least, true, 0, 15, -2, false, 28},
		{least, false, 0, 29, -3, false, 11},
		// The middle of 0 and the least number, a little below and above it.
		{least, false, 0, 1, -3, false, 0},
		{least, true, 0, 1, -3, false, 16},
		{least, false, 0, 1<<20 - 1, -23, false, 0},
		{least, false, 0, 1<<20 + 1, -23, false, 1},
		{least, false, 0, 3, -3, false, 2},
		// Rounded up into a greater power, and out of the numbers with field 0.
		{least, false, 0, 15, -3, false, 8},
		{least, false, 0, 7, -3, false, 4},
		{least, false, 0, 31, -5, false, 4},
		// The least and the greatest of singles and doubles.
		{single, false, 0, 1, -149, false, 1},
		{single, false, 0, 1, -150, false, 0},
		{single, false, 0, 3, -151, false, 1},
		{single, false, 0, 1<<24 - 1, 104, false, 0x7f7fffff},
		{single, false, 0, 1<<25 - 1, 103, false, 0x7f800000},
		{single, false, 0, 1<<32 - 1<<7 - 1, 96, false, 0x7f7fffff},
		{single, false, 0, 1<<32 - 1<<7, 96, false, 0x7f800000},
		{single, false, 0, 1, 127, false, 0x7f000000},
		{single, false, 0, 1, 128, false, 0x7f800000},
		{double, false, 0, 1, -1074, false, 1},
		{double, false, 0, 1, -1075, false, 0},
		{double, true, 0, 3, -1076, false, 1<<63 | 1},
		{double, false, 0, 1, 1023, false, 0x7fe0000000000000},
		{double, false, 0, 1, 1024, false, 0x7ff0000000000000},
		{double, true, 0, 1<<53 - 1, 971, false, 0xffefffffffffffff},
		{double, true, 0, 1<<54 - 1, 970, false, 0xfff0000000000000},
		// The ends of e.
		{double, false, 0, 1, -4096, false, 0},
		{double, true, 0, 1, -4096, false, 1 << 63},
		{double, false, math.MaxUint64, math.MaxUint64, -4096, true, 0},
		{double, false, 0, 1, 4096, false, 0x7ff0000000000000},
		{double, true, math.MaxUint64, math.MaxUint64, 4096, true, 0xfff0000000000000},
		{least, true, math.MaxUint64, math.MaxUint64, 4096, true, 28},
		{least, false, math.MaxUint64, math.MaxUint64, -4096, true, 0},
		{double, false, 0, 0, 4096, false, 0},
		{double, true, 0, 0, -4096, false, 1 << 63},
		// 128 bits.
		{double, false, math.MaxUint64, math.MaxUint64, -128, false, 0x3ff0000000000000},
		{double, false, 1 << 63, 0, -127, false, 0x3ff0000000000000},
		{double, false, 1 << 63, 1 << 63, -127, false, 0x3ff0000000000000},
		{double, false, 1<<63 | 1<<10, 0, -127, false, 0x3ff0000000000000},
		{double, false, 1<<63 | 1<<10, 1, -127, false, 0x3ff0000000000001},
		{double, false, 1<<63 | 1<<10, 0, -127, true, 0x3ff0000000000001},
		{double, false, 1<<63 | 3<<10, 0, -127, false, 0x3ff0000000000002},
		{double, false, 1<<63 | 3<<10 - 1, math.MaxUint64, -127, true, 0x3ff0000000000001},
		// A little more than a middle, than a number, and a little less than a middle.
		{single, false, 0, 1<<25 + 2, 0, true, 0x4c000001},
		{single, false, 0, 1<<25 + 2, 0, false, 0x4c000000},
		{single, false, 0, 1<<25 + 1, 0, true, 0x4c000000},
		{single, false, 0, 1<<25 + 4, 0, true, 0x4c000001},
		{single, false, 0, 1<<25 + 6, 0, true, 0x4c000002},
		// The least number may be less than a half of one that is told, with more or without.
		{least, false, 0, 16, -7, true, 1},
		{least, false, 0, 16, -7, false, 0},
		{least, false, 0, 16, -8, true, 0},
		{least, false, 0, 24, -7, true, 1},
		// Nearest to the greatest number, but for more.
		{least, false, 0, 29, -3, true, 11},
		{least, false, 0, 59, -4, true, 11},
	} {
		x, e := Pack(c.f, c.neg, c.hi, c.lo, c.e, c.more)
		if x != c.want || e != api.OK {
			t.Errorf("Pack(%v, %v, %x, %x, %d, %v) = %x, %d, not %x", c.f, c.neg, c.hi, c.lo, c.e, c.more, x, e, c.want)
		}
	}
}

func TestPackWrong(t *testing.T) {
	for _, f := range wrongFormats() {
		for _, lo := range []uint64{0, 1, math.MaxUint64} {
			for _, more := range []bool{false, true} {
				if x, e := Pack(f, true, lo, lo, 0, more); x != 0 || e != api.ErrArg {
					t.Errorf("Pack(%v, %x, %v) = %x, %d", f, lo, more, x, e)
				}
			}
		}
	}
	for _, f := range []api.Format{least, single, double} {
		for _, e := range []int{-4097, 4097, -5000, 1 << 32, -1 << 32, math.MinInt, math.MaxInt} {
			for _, n := range []uint64{0, 1, math.MaxUint64} {
				if x, err := Pack(f, true, n, n, e, n > 1); x != 0 || err != api.ErrArg {
					t.Errorf("Pack(%v, %x, %d) = %x, %d", f, n, e, x, err)
				}
			}
		}
	}
	for _, f := range allFormats() {
		for bit := range 128 {
			hi, lo := uint64(0), uint64(0)
			if bit < 64 {
				lo = 1<<bit | (1<<bit - 1)
			} else {
				hi, lo = 1<<(bit-64), 0
			}
			want := api.OK
			if bit+1 < f.Mant+3 {
				want = api.ErrArg
			}
			x, e := Pack(f, true, hi, lo, -bit, true)
			if e != want || e != api.OK && x != 0 {
				t.Errorf("Pack(%v, %x, %x) with more = %x, %d", f, hi, lo, x, e)
			}
		}
		if x, e := Pack(f, true, 0, 0, 0, true); x != 0 || e != api.ErrArg {
			t.Errorf("Pack(%v) of 0 with more = %x, %d", f, x, e)
		}
	}
}

// P2.4, P2.6

func TestPackIsNearest(t *testing.T) {
	for _, f := range smallFormats() {
		// Every quarter between two of the numbers nearest to 0, and then more and more coarsely.
		low := leastUnit(f) - 2
		for e := low; e < 4; e++ {
			for lo := range uint64(140) {
				want := nearest(f, value(0, lo, e))
				if x := mustPack(t, f, false, 0, lo, e, false); x != want {
					t.Errorf("Pack(%v, %d, %d) = %x, not %x", f, lo, e, x, want)
				}
				if x := mustPack(t, f, true, 0, lo, e, false); x != want|1<<(f.Mant+f.Exp) {
					t.Errorf("Pack(%v, -%d, %d) = %x, not %x", f, lo, e, x, want)
				}
			}
		}
	}
}

func TestPackWithMore(t *testing.T) {
	for _, f := range smallFormats() {
		low := leastUnit(f) - 8
		for e := low; e < 3; e++ {
			for lo := uint64(1) << (f.Mant + 2); lo < 1<<(f.Mant+4); lo++ {
				x := mustPack(t, f, false, 0, lo, e, true)
				for _, little := range []int{-1, -60} {
					v := new(big.Rat).Add(value(0, lo, e), power(e+little))
					if want := nearest(f, v); x != want {
						t.Errorf("Pack(%v, %d, %d) with more = %x, not %x", f, lo, e, x, want)
					}
				}
			}
		}
	}
}

func TestPackAsBigNumbersDo(t *testing.T) {
	r := rand.New(rand.NewSource(3))
	for i := range 40000 {
		hi, lo := r.Uint64()>>r.Intn(65), r.Uint64()>>r.Intn(65)
		if i%3 == 0 {
			hi = 0
		}
		if i%5 == 0 {
			// Rows of ones and zeros lie at the middles.
			hi, lo = hi&^(1<<r.Intn(64)-1), 1<<r.Intn(64)
		}
		n := wide(hi, lo).BitLen()
		checkAgainst(t, single, hi, lo, r.Intn(320)-170-n, func(v *big.Rat) uint64 {
			x, _ := v.Float32()
			return uint64(math.Float32bits(x))
		})
		checkAgainst(t, double, hi, lo, r.Intn(2300)-1150-n, func(v *big.Rat) uint64 {
			x, _ := v.Float64()
			return math.Float64bits(x)
		})
	}
}

// checkAgainst holds Pack, with more and without, against another way to round.
func checkAgainst(t *testing.T, f api.Format, hi, lo uint64, e int, round func(v *big.Rat) uint64) {
	t.Helper()
	v := value(hi, lo, e)
	if x := mustPack(t, f, false, hi, lo, e, false); x != round(v) {
		t.Errorf("Pack(%v, %x, %x, %d) = %x, not %x", f, hi, lo, e, x, round(v))
	}
	if wide(hi, lo).BitLen() < f.Mant+3 {
		return
	}
	v.Add(v, power(e-3))
	if x := mustPack(t, f, false, hi, lo, e, true); x != round(v) {
		t.Errorf("Pack(%v, %x, %x, %d) with more = %x, not %x", f, hi, lo, e, x, round(v))
	}
}

// P2.4: of every format the middles, a little below and above, with numbers of up to 128 bits

func TestPackMiddles(t *testing.T) {
	for _, f := range allFormats() {
		for _, x := range edgePatterns(f) {
			sum := new(big.Rat).Add(number(f, x), number(f, x+1))
			middle := sum.Quo(sum, big.NewRat(2, 1))
			even := x + x%2
			hi, lo, e := told(middle)
			checkPack(t, f, hi, lo, e, false, even)
			checkPack(t, f, hi, lo, e, true, x+1)
			hi, lo = nextTo(hi, lo, 1)
			checkPack(t, f, hi, lo, e, false, x+1)
			hi, lo = nextTo(hi, lo, -2)
			checkPack(t, f, hi, lo, e, false, x)
			checkPack(t, f, hi, lo, e, true, x)
		}
	}
}

// edgePatterns are finite ones around which fields change.
func edgePatterns(f api.Format) []uint64 {
	one := uint64(1) << f.Mant
	last := (uint64(1)<<f.Exp-1)<<f.Mant - 1
	return []uint64{0, 1, 2, one - 2, one - 1, one, one + 1, 2*one - 2, 2*one - 1, 2 * one, last - 2, last - 1, last}
}

// told is a number above 0 as 128 bits, of which the highest is set.
func told(v *big.Rat) (hi, lo uint64, e int) {
	for v.Cmp(power(127+e)) < 0 {
		e--
	}
	for v.Cmp(power(128+e)) >= 0 {
		e++
	}
	hi, lo = words(new(big.Rat).Quo(v, power(e)).Num())
	return hi, lo, e
}

// nextTo is a number of two words, and d besides.
func nextTo(hi, lo uint64, d int64) (uint64, uint64) {
	return words(new(big.Int).Add(wide(hi, lo), big.NewInt(d)))
}

// checkPack holds Pack against a pattern, with both signs.
func checkPack(t *testing.T, f api.Format, hi, lo uint64, e int, more bool, want uint64) {
	t.Helper()
	if x := mustPack(t, f, false, hi, lo, e, more); x != want {
		t.Errorf("Pack(%v, %x, %x, %d, %v) = %x, not %x", f, hi, lo, e, more, x, want)
	}
	if x := mustPack(t, f, true, hi, lo, e, more); x != want|1<<(f.Mant+f.Exp) {
		t.Errorf("Pack(%v, -%x, %x, %d, %v) = %x, not %x", f, hi, lo, e, more, x, want)
	}
}

// P2.5

func TestPackOfOpen(t *testing.T) {
	for _, f := range smallFormats() {
		for x := uint64(0); x < 1<<(1+f.Exp+f.Mant); x++ {
			checkThereAndBack(t, f, x)
		}
	}
	r := rand.New(rand.NewSource(4))
	for _, f := range allFormats() {
		for _, x := range edgePatterns(f) {
			checkThereAndBack(t, f, x)
			checkThereAndBack(t, f, x|1<<(f.Mant+f.Exp))
		}
		for range 30 {
			checkThereAndBack(t, f, r.Uint64()>>(63-f.Mant-f.Exp))
		}
	}
}

// checkThereAndBack packs what Open says, if it is a number.
func checkThereAndBack(t *testing.T, f api.Format, x uint64) {
	t.Helper()
	p, e := Open(f, x)
	if e != api.OK {
		t.Fatalf("Open(%v, %x): %d", f, x, e)
	}
	if p.Kind != api.PartFinite && p.Kind != api.PartZero {
		return
	}
	if y := mustPack(t, f, p.Neg, 0, p.M, p.E, false); y != x {
		t.Errorf("Pack(%v) of Open of %x = %x", f, x, y)
	}
}

// P2.7

func TestPackGreater(t *testing.T) {
	r := rand.New(rand.NewSource(5))
	for _, f := range []api.Format{least, {Mant: 2, Exp: 11}, {Mant: 52, Exp: 2}, single, double} {
		for range 3000 {
			hi, lo := r.Uint64()>>(1+r.Intn(64)), r.Uint64()
			e := r.Intn(2*bias(f)+f.Mant+20) - bias(f) - f.Mant - 10 - wide(hi, lo).BitLen()
			x := mustPack(t, f, false, hi, lo, e, false)
			nextHi, nextLo := nextTo(hi, lo, 1)
			if y := mustPack(t, f, false, nextHi, nextLo, e, false); y < x {
				t.Errorf("Pack(%v, %x, %x, %d) = %x, and of the next number %x", f, hi, lo, e, x, y)
			}
			if wide(hi, lo).BitLen() >= f.Mant+3 {
				if y := mustPack(t, f, false, hi, lo, e, true); y < x {
					t.Errorf("Pack(%v, %x, %x, %d) = %x, and with more %x", f, hi, lo, e, x, y)
				}
			}
			if y := mustPack(t, f, true, hi, lo, e, false); y != x|1<<(f.Mant+f.Exp) {
				t.Errorf("Pack(%v, %x, %x, %d) = %x, and below 0 %x", f, hi, lo, e, x, y)
			}
		}
	}
}

func TestPackByAnotherScale(t *testing.T) {
	r := rand.New(rand.NewSource(6))
	for _, f := range []api.Format{least, {Mant: 2, Exp: 11}, {Mant: 52, Exp: 2}, single, double} {
		for range 300 {
			lo := r.Uint64() >> r.Intn(64)
			e := r.Intn(2*bias(f)+f.Mant+20) - bias(f) - f.Mant - 10 - wide(0, lo).BitLen()
			x := mustPack(t, f, false, 0, lo, e, false)
			for by := 1; by+wide(0, lo).BitLen() <= 128; by++ {
				hi, low := words(new(big.Int).Lsh(wide(0, lo), uint(by)))
				if y := mustPack(t, f, false, hi, low, e-by, false); y != x {
					t.Errorf("Pack(%v, %x, %d) = %x, and by %d bits %x", f, lo, e, x, by, y)
				}
			}
		}
	}
}

// What Pack leans on.

func TestShifts(t *testing.T) {
	r := rand.New(rand.NewSource(7))
	mask := wide(math.MaxUint64, math.MaxUint64)
	for n := range 300 {
		for range 20 {
			hi, lo := r.Uint64(), r.Uint64()
			left := new(big.Int).Lsh(wide(hi, lo), uint(n))
			if a, b := shiftLeft(hi, lo, n); wide(a, b).Cmp(left.And(left, mask)) != 0 {
				t.Errorf("shiftLeft(%x, %x, %d) = %x, %x", hi, lo, n, a, b)
			}
			right := new(big.Int).Rsh(wide(hi, lo), uint(n))
			if a, b := shiftRight(hi, lo, n); wide(a, b).Cmp(right) != 0 {
				t.Errorf("shiftRight(%x, %x, %d) = %x, %x", hi, lo, n, a, b)
			}
		}
	}
}
