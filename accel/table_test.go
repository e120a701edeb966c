package accel

import (
	"math/rand"
	"slices"
	"testing"

	"grotto/api"
)

// P18.7

func expectParams(t *testing.T, a *Table, want ...uint32) {
	t.Helper()
	if got := a.Params(); !slices.Equal(got, want) {
		t.Errorf("params %d, want %d", got, want)
	}
}

func expectAt(t *testing.T, a *Table, addr, want uint32) {
	t.Helper()
	if got := a.At(addr); got != want {
		t.Errorf("at %d the function %d, want %d", addr, got, want)
	}
}

func TestNew(t *testing.T) {
	a := New()
	expectParams(t, a, 0, 0, 0, 0, 0, 0, 0, 0, 0)
	for _, addr := range []uint32{0, 1, 36, 300, 1 << 31, top} {
		expectAt(t, a, addr, 0)
	}
}

func TestParam(t *testing.T) {
	a := New()
	for i := range uint32(9) {
		a.Param(i, 100+i)
	}
	expectParams(t, a, 100, 101, 102, 103, 104, 105, 106, 107, 108)
	for _, i := range []uint32{9, 10, 256, 1 << 16, 1 << 31, 1<<31 + 3, top} {
		a.Param(i, 7)
	}
	expectParams(t, a, 100, 101, 102, 103, 104, 105, 106, 107, 108)
	a.Param(8, top)
	a.Param(0, 0)
	a.Param(3, 1<<31)
	expectParams(t, a, 0, 101, 102, 1<<31, 104, 105, 106, 107, top)
	for i := range uint32(9) {
		expectAt(t, a, i, 0)
		expectAt(t, a, 100+i, 0)
	}
}

func TestParamsChangedByTheCaller(t *testing.T) {
	a := New()
	a.Param(2, 7)
	was := a.Params()
	for i := range was {
		was[i] = 99
	}
	_ = append(was[:9], 5)
	expectParams(t, a, 0, 0, 7, 0, 0, 0, 0, 0, 0)
	first, second := a.Params(), a.Params()
	first[0] = 1
	if second[0] != 0 {
		t.Error("two answers share their numbers")
	}
	if spare := first[:cap(first)]; len(spare) > 9 {
		spare[9] = 5
		if o := second[:cap(second)]; o[9] == 5 {
			t.Error("two answers share their spare room")
		}
	}
	a.Param(2, 8)
	if first[2] != 7 {
		t.Error("an answer has changed")
	}
}

func TestFunc(t *testing.T) {
	a := New()
	for n := uint32(1); n <= 13; n++ {
		a.Func(n, 300+n)
		expectAt(t, a, 300+n, n)
	}
	for n := uint32(1); n <= 13; n++ {
		expectAt(t, a, 300+n, n)
	}
	expectAt(t, a, 300, 0)
	expectAt(t, a, 314, 0)
	expectParams(t, a, 0, 0, 0, 0, 0, 0, 0, 0, 0)
	// One that has a function has another; one that is too great changes nothing.
	a.Func(5, 301)
	for _, n := range []uint32{14, 15, 256, 257, 1 << 16, 1 << 31, 1<<31 + 1, top} {
		a.Func(n, 301)
		a.Func(n, 999)
	}
	expectAt(t, a, 301, 5)
	expectAt(t, a, 999, 0)
	// 0 takes it away, of an address that has one and of one that has none.
	a.Func(0, 301)
	a.Func(0, 301)
	a.Func(0, 999)
	expectAt(t, a, 301, 0)
	expectAt(t, a, 999, 0)
	expectAt(t, a, 302, 2)
	a.Func(13, 301)
	expectAt(t, a, 301, 13)
	// Any word is an address.
	for _, addr := range []uint32{0, 1, 1 << 31, top} {
		a.Func(3, addr)
		expectAt(t, a, addr, 3)
	}
	// Two functions of one kind, and two tables.
	a.Func(3, 302)
	expectAt(t, a, 302, 3)
	expectAt(t, New(), 302, 0)
	expectParams(t, a, 0, 0, 0, 0, 0, 0, 0, 0, 0)
}

func TestTableNil(t *testing.T) {
	var a *Table
	for _, x := range []uint32{0, 1, 8, 9, 13, 14, top} {
		a.Param(x, 1)
		a.Func(x, 300)
		expectAt(t, a, x, 0)
		expectAt(t, a, 300, 0)
	}
	expectParams(t, a)
}

func TestTableZero(t *testing.T) {
	// What it answers is open; it ends.
	for _, n := range []uint32{0, 1, 13, 14, top} {
		var a Table
		a.At(300)
		a.Func(n, 300)
		a.At(300)
		a.Param(n, 1)
		a.Params()
	}
}

func TestTableByChance(t *testing.T) {
	r := rand.New(rand.NewSource(7))
	for range 50 {
		a, other := New(), New()
		params, funcs := make([]uint32, 9), map[uint32]uint32{}
		for range 300 {
			n, addr := uint32(r.Intn(18)), uint32(r.Intn(6))
			if r.Intn(3) == 0 {
				a.Param(n, addr)
				if n < 9 {
					params[n] = addr
				}
			} else {
				a.Func(n, addr)
				if n <= 13 {
					funcs[addr] = n
				}
			}
			expectParams(t, a, params...)
			for addr := range uint32(6) {
				expectAt(t, a, addr, funcs[addr])
				expectAt(t, other, addr, 0)
			}
		}
	}
}

func TestManyFunctions(t *testing.T) {
	a := New()
	for i := range uint32(100000) {
		a.Func(i%13+1, i*7)
	}
	for i := range uint32(100000) {
		expectAt(t, a, i*7, i%13+1)
		a.Func(0, i*7)
		expectAt(t, a, i*7, 0)
	}
}

// The limits that the chapter names.
func TestLimits(t *testing.T) {
	if api.Params != 9 || api.MaxFast != 13 || len(New().Params()) != 9 {
		t.Error(api.Params, api.MaxFast)
	}
}
