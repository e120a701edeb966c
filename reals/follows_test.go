package reals

import (
	"math/rand"
	"testing"

	"grotto/api"
)

// P4.6

func TestThereAndBack(t *testing.T) {
	m := forms()[0]
	check := func(x uint32) {
		want := x
		if m.isNaN(uint64(x)) {
			want = 0x7fc00000
		}
		if y := Narrow(Widen(x)); y != want {
			t.Errorf("Narrow of Widen(%x) = %x, not %x", x, y, want)
		}
	}
	for _, x := range m.edges() {
		check(uint32(x))
	}
	// An odd step goes through all fields, with fractions of all kinds.
	for x := uint32(0); x < 1<<32-4099; x += 4099 {
		check(x)
	}
	for field := range uint32(1 << 9) {
		for _, fraction := range []uint32{0, 1, 2, 1 << 22, 1<<22 + 1, 1<<23 - 2, 1<<23 - 1} {
			check(field<<23 | fraction)
		}
	}
}

// P4.7

func TestByDoubles(t *testing.T) {
	ops := []int{api.RealAdd, api.RealSub, api.RealMul, api.RealDiv, api.RealRest, api.RealSqrt, api.RealCeil, api.RealFloor}
	check := func(a, b uint32) {
		for _, op := range ops {
			x, e := Single(op, a, b)
			y, d := Double(op, Widen(a), Widen(b))
			if e != api.OK || d != api.OK || x != Narrow(y) {
				t.Errorf("%d of %x, %x = %x, %d, of their doubles %x, %d", op, a, b, x, e, y, d)
			}
		}
	}
	m := forms()[0]
	for _, a := range m.edges() {
		for _, b := range m.edges() {
			check(uint32(a), uint32(b))
		}
	}
	r := rand.New(rand.NewSource(51))
	for range 30000 {
		a, b := m.somePair(r)
		check(uint32(a), uint32(b))
		// Answers that are near the least numbers are rounded to fewer bits.
		check(uint32(a)>>r.Intn(32), uint32(b)>>r.Intn(32))
	}
}

// P4.8

func TestIntegersAreTold(t *testing.T) {
	for _, n := range someIntegers(52) {
		for _, near := range []bool{false, true} {
			if x := DoubleInt(DoubleOf(n), near); x != n {
				t.Errorf("DoubleInt of DoubleOf(%d) = %d", int32(n), int32(x))
			}
			// Within the bits of a single.
			if within := int32(n) >= -1<<24 && int32(n) <= 1<<24; within && SingleInt(SingleOf(n), near) != n {
				t.Errorf("SingleInt of SingleOf(%d) = %d", int32(n), int32(SingleInt(SingleOf(n), near)))
			}
		}
	}
	// The first that are beyond them are not told.
	for _, n := range []uint32{1<<24 + 1, 1<<32 - 1<<24 - 1} {
		if x := SingleInt(SingleOf(n), true); x == n {
			t.Errorf("SingleInt of SingleOf(%d) is the same", int32(n))
		}
	}
}

// P4.9

func TestJustOneOrder(t *testing.T) {
	r := rand.New(rand.NewSource(53))
	for _, m := range forms() {
		check := func(a, b uint64) {
			count := 0
			for _, is := range []bool{
				m.holds(api.IsLt, a, b, 0), m.holds(api.IsGt, a, b, 0), m.holds(api.IsLe, a, b, 0) && m.holds(api.IsGe, a, b, 0),
			} {
				if is {
					count++
				}
			}
			want := 1
			if m.isNaN(a) || m.isNaN(b) {
				want = 0
			}
			if count != want {
				t.Errorf("%ss %x, %x: %d orders hold, not %d", m.name, a, b, count, want)
			}
		}
		for _, a := range m.edges() {
			for _, b := range m.edges() {
				check(a, b)
			}
		}
		for range 20000 {
			check(m.somePair(r))
		}
	}
}

func TestGreaterTolerance(t *testing.T) {
	r := rand.New(rand.NewSource(54))
	for _, m := range forms() {
		check := func(a, b, small, great uint64) {
			if m.isNaN(small) || m.isNaN(great) {
				return
			}
			// The greater one by their sizes, since their signs have no part.
			if small&^m.sign() > great&^m.sign() {
				small, great = great, small
			}
			if m.holds(api.IsNear, a, b, small) && !m.holds(api.IsNear, a, b, great) {
				t.Errorf("%ss %x, %x are near by %x, not by %x", m.name, a, b, small, great)
			}
			if m.holds(api.IsFar, a, b, great) && !m.holds(api.IsFar, a, b, small) {
				t.Errorf("%ss %x, %x are far by %x, not by %x", m.name, a, b, great, small)
			}
		}
		edges := m.edges()
		for _, a := range edges {
			for _, b := range edges {
				check(a, b, edges[r.Intn(len(edges))], edges[r.Intn(len(edges))])
			}
		}
		for range 20000 {
			a, b := m.somePair(r)
			apart := m.want(api.RealSub, a, b)
			check(a, b, apart, m.some(r))
			check(a, b, m.some(r), m.some(r))
		}
	}
}
