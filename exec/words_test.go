package exec

import (
	"slices"
	"testing"

	"grotto/api"
	"grotto/code"
)

// single: a machine that is about to do one instruction: the loaded operands are these constants, what is stored comes onto the stack.
func single(t testing.TB, name string, args ...uint32) *Machine {
	t.Helper()
	return machine(t, nil, singleRow(t, name, args...), in("nop"))
}

// singleRow: the row of that instruction.
func singleRow(t testing.TB, name string, args ...uint32) row {
	t.Helper()
	letters, ok := code.Signature(opOf(t, name))
	if !ok {
		t.Fatal(name)
	}
	r := row{name}
	for i := range letters {
		if letters[i] == 'S' {
			r = append(r, sp)
			continue
		}
		r = append(r, c(args[0]))
		args = args[1:]
	}
	if len(args) > 0 {
		t.Fatal(name, "has fewer operands")
	}
	return r
}

// comesTo: what an instruction stores is just this, in order, and the next one lies behind it.
func comesTo(t *testing.T, name string, args []uint32, want ...uint32) {
	t.Helper()
	m := single(t, name, args...)
	if e := m.Step(); e != api.OK {
		t.Errorf("%s %x: %d", name, args, e)
		return
	}
	l := values(t, m)
	slices.Reverse(l)
	if !slices.Equal(l, want) {
		t.Errorf("%s %x: %x; want %x", name, args, l, want)
	}
	hasPC(t, m, first+uint32(len(lay(t, singleRow(t, name, args...)))))
}

// failsAs: an instruction has that error, and stores nothing.
func failsAs(t *testing.T, name string, args []uint32, want api.Errno) {
	t.Helper()
	m := single(t, name, args...)
	if e := m.Step(); e != want {
		t.Errorf("%s %x: %d; want %d", name, args, e, want)
	}
	if l := values(t, m); len(l) > 0 {
		t.Errorf("%s %x: %x on the stack", name, args, l)
	}
}

// pairs: each edge with each, and some words more.
func pairs() [][]uint32 {
	l := append(edges(), 2, 3, 7, 31, 32, 33, 100, 1<<32-7, 1<<32-100, 0x12345678, 0xfedcba98)
	var all [][]uint32
	for _, a := range l {
		for _, b := range l {
			all = append(all, []uint32{a, b})
		}
	}
	return all
}

func TestWordsOfTwo(t *testing.T) {
	shift := func(b uint32) uint64 {
		return min(uint64(b), 32)
	}
	for name, f := range map[string]func(a, b uint32) uint32{
		"add":     func(a, b uint32) uint32 { return uint32((uint64(a) + uint64(b)) % (1 << 32)) },
		"sub":     func(a, b uint32) uint32 { return uint32((1<<32 + uint64(a) - uint64(b)) % (1 << 32)) },
		"mul":     func(a, b uint32) uint32 { return uint32(uint64(a) * uint64(b) % (1 << 32)) },
		"bitand":  func(a, b uint32) uint32 { return a & b },
		"bitor":   func(a, b uint32) uint32 { return a + b - a&b },
		"bitxor":  func(a, b uint32) uint32 { return a + b - 2*(a&b) },
		"shiftl":  func(a, b uint32) uint32 { return uint32(uint64(a) << shift(b)) },
		"ushiftr": func(a, b uint32) uint32 { return uint32(uint64(a) >> shift(b)) },
		"sshiftr": func(a, b uint32) uint32 { return uint32(int64(int32(a)) >> shift(b)) },
	} {
		for _, l := range pairs() {
			comesTo(t, name, l, f(l[0], l[1]))
		}
	}
}

func TestDivAndMod(t *testing.T) {
	for _, l := range pairs() {
		a, b := int64(int32(l[0])), int64(int32(l[1]))
		if b == 0 {
			failsAs(t, "div", l, api.ErrZero)
			failsAs(t, "mod", l, api.ErrZero)
			continue
		}
		q := a / b // toward 0
		comesTo(t, "div", l, uint32(q))
		comesTo(t, "mod", l, uint32(a-q*b))
	}
	minus := func(x uint32) uint32 { return -x }
	comesTo(t, "div", []uint32{minus(7), 2}, minus(3))
	comesTo(t, "mod", []uint32{minus(7), 2}, minus(1))
	comesTo(t, "mod", []uint32{7, minus(2)}, 1)
	comesTo(t, "div", []uint32{big, top}, big)
	comesTo(t, "mod", []uint32{big, top}, 0)
}

func TestWordsOfOne(t *testing.T) {
	for _, a := range append(edges(), 0x7f, 0x80, 0xff, 0x100, 0x7fff, 0x8000, 0xffff, 0x10000, 0x12345678, 0xfedcba98) {
		comesTo(t, "neg", []uint32{a}, uint32((1<<32-uint64(a))%(1<<32)))
		comesTo(t, "bitnot", []uint32{a}, top-a)
		comesTo(t, "copy", []uint32{a}, a)
		comesTo(t, "copys", []uint32{a}, a%0x10000)
		comesTo(t, "copyb", []uint32{a}, a%0x100)
		comesTo(t, "sexs", []uint32{a}, uint32(int32(int16(a))))
		comesTo(t, "sexb", []uint32{a}, uint32(int32(int8(a))))
	}
}

// branchesAsIt: an instruction branches by its last operand, or goes on.
func branchesAsIt(t *testing.T, name string, args []uint32, taken bool) {
	t.Helper()
	for _, by := range []uint32{2, 3, 50, top - 8, 1<<32 - 200} {
		m := single(t, name, append(slices.Clone(args), by)...)
		behind := first + uint32(len(lay(t, singleRow(t, name, append(slices.Clone(args), by)...))))
		steps(t, m, 1)
		if taken {
			hasPC(t, m, behind+by-2)
		} else {
			hasPC(t, m, behind)
		}
		if t.Failed() {
			t.Fatal(name, args, by, taken)
		}
	}
	// By 0 and 1 one returns from Start, which ends it.
	for _, x := range []uint32{0, 1} {
		m := single(t, name, append(slices.Clone(args), x)...)
		if taken {
			ends(t, m)
		} else {
			steps(t, m, 2)
		}
		if t.Failed() {
			t.Fatal(name, args, x, taken)
		}
	}
}

func TestJumpsOfWords(t *testing.T) {
	branchesAsIt(t, "jump", nil, true)
	for _, a := range append(edges(), 2, 0x10000, 0xff00) {
		branchesAsIt(t, "jz", []uint32{a}, a == 0)
		branchesAsIt(t, "jnz", []uint32{a}, a != 0)
	}
	for name, f := range map[string]func(a, b int64) bool{
		"jeq": func(a, b int64) bool { return a == b },
		"jne": func(a, b int64) bool { return a != b },
		"jlt": func(a, b int64) bool { return a < b },
		"jge": func(a, b int64) bool { return a >= b },
		"jgt": func(a, b int64) bool { return a > b },
		"jle": func(a, b int64) bool { return a <= b },
	} {
		for _, a := range edges() {
			for _, b := range edges() {
				branchesAsIt(t, name, []uint32{a, b}, f(int64(int32(a)), int64(int32(b))))
			}
		}
	}
	for name, f := range map[string]func(a, b uint32) bool{
		"jltu": func(a, b uint32) bool { return a < b },
		"jgeu": func(a, b uint32) bool { return a >= b },
		"jgtu": func(a, b uint32) bool { return a > b },
		"jleu": func(a, b uint32) bool { return a <= b },
	} {
		for _, a := range edges() {
			for _, b := range edges() {
				branchesAsIt(t, name, []uint32{a, b}, f(a, b))
			}
		}
	}
}

// chanceBehind: the chance behind x, reckoned bit by bit: each bit is itself xor the one so many places from it.
func chanceBehind(x uint32) uint32 {
	for _, by := range []int{13, -17, 5} {
		var y uint32
		for i := range 32 {
			bit := x >> i & 1
			if from := i - by; from >= 0 && from < 32 {
				bit ^= x >> from & 1
			}
			y |= bit << i
		}
		x = y
	}
	return x
}

func TestRandom(t *testing.T) {
	for _, seed := range append(edges(), 2, 0xdeadbeef) {
		for _, a := range []uint32{0, 1, top, big - 1, big, 2, 100, 1<<32 - 100, big + 1} {
			m := machine(t, nil, in("setrandom", c(seed)), in("random", c(a), sp), in("random", c(a), sp), in("random", none, sp), in("setrandom", c(seed)), in("random", none, sp))
			steps(t, m, 6)
			x1 := chanceBehind(max(seed, 1))
			x2 := chanceBehind(x1)
			x3 := chanceBehind(x2)
			want := func(x uint32) uint32 {
				switch n := int64(int32(a)); {
				case n > 0:
					return uint32(int64(x) % n)
				case n < 0:
					return uint32(-(int64(x) % -n))
				}
				return x
			}
			hasValues(t, m, x1, x3, want(x2), want(x1))
			if t.Failed() {
				t.Fatal(seed, a)
			}
		}
	}
}

func TestTheFirstChance(t *testing.T) {
	// 1 at first, as behind setrandom of 1, and of 0.
	m := machine(t, nil, in("random", none, sp), in("random", none, sp), in("setrandom", c(1)), in("random", none, sp), in("setrandom", none), in("random", none, sp))
	steps(t, m, 6)
	x := chanceBehind(1)
	if x != 0x00042021 {
		t.Errorf("%x", x)
	}
	hasValues(t, m, x, x, chanceBehind(x), x)
}

func TestRandomWithin(t *testing.T) {
	seen := map[int32]int{}
	m := machine(t, nil, in("random", c(6), local(0)), in("random", c(1<<32-6), local(4)), in("random", c(1), local(8)), in("random", c(top), local(12)), in("jumpabs", c(first)))
	for range 400 {
		steps(t, m, 5)
		for i, lo := range []int32{0, -5, 0, 0} {
			x, _ := m.Stack().Local(uint32(4*i), 4)
			hi := []int32{5, 0, 0, 0}[i]
			if int32(x) < lo || int32(x) > hi {
				t.Fatal(i, int32(x))
			}
			seen[int32(x)]++
		}
	}
	for x := int32(-5); x <= 5; x++ {
		if seen[x] < 20 {
			t.Error(x, seen[x])
		}
	}
}

func TestNothingHappens(t *testing.T) {
	m := machine(t, nil, in("copy", c(3), sp), in("nop"), in("debugtrap", c(5)), in("debugtrap", sp), in("debugtrap", at(top)))
	steps(t, m, 2)
	mem, stk := m.Memory().Bytes(), m.Stack().Bytes()
	steps(t, m, 1)
	if !slices.Equal(mem, m.Memory().Bytes()) || !slices.Equal(stk, m.Stack().Bytes()) {
		t.Error("something changed")
	}
	steps(t, m, 1)
	hasValues(t, m)
	fails(t, m, api.FatalRead)
}
