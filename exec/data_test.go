package exec

import (
	"slices"
	"testing"

	"grotto/api"
)

// numbered: the bytes from 0x900 to 0x9ff are these.
func numbered() laid {
	var b []byte
	for i := range 256 {
		b = append(b, byte(i*7+1))
	}
	return laid{keptAt: b}
}

func TestLoadsOfRows(t *testing.T) {
	for name, n := range map[string]uint32{"aload": 4, "aloads": 2, "aloadb": 1} {
		for _, at := range []uint32{0x900, 0x901, 0x940, 0x9a3} {
			for _, i := range []uint32{0, 1, 2, 7, top, top - 1, top - 15, big, big + 1, 1 << 30} {
				m := machine(t, numbered(), in(name, c(at), c(i), sp))
				addr := uint32(uint64(at) + uint64(n)*uint64(i))
				want := uint32(0)
				for _, b := range m.Memory().Bytes()[min(addr, memEnd-n) : min(addr, memEnd-n)+n] {
					want = want<<8 + uint32(b)
				}
				if uint64(addr)+uint64(n) > memEnd {
					fails(t, m, api.FatalRead)
					hasValues(t, m)
					continue
				}
				steps(t, m, 1)
				hasValues(t, m, want)
				if t.Failed() {
					t.Fatal(name, at, i)
				}
			}
		}
	}
	// With each edge as an operand, beyond the end and round to 0.
	for _, a := range edges() {
		for _, b := range edges() {
			for name, n := range map[string]uint32{"aload": 4, "aloads": 2, "aloadb": 1} {
				addr := a + n*b
				m := single(t, name, a, b)
				if e := m.Step(); (e == api.OK) != (addr < memEnd-n) || e != api.OK && e != api.FatalRead {
					t.Error(name, a, b, e)
				}
			}
		}
	}
}

func TestStoresInRows(t *testing.T) {
	for name, n := range map[string]uint32{"astore": 4, "astores": 2, "astoreb": 1} {
		for _, a := range []uint32{0x900, 0x901, 0x940} {
			for _, i := range []uint32{0, 1, 2, 7, top, top - 15, big, 1 << 30} {
				addr := uint32(uint64(a) + uint64(n)*uint64(i))
				m := machine(t, numbered(), in(name, c(a), c(i), c(0xa1b2c3d4)))
				want := m.Memory().Bytes()
				if addr < ramAt || uint64(addr)+uint64(n) > memEnd {
					fails(t, m, api.FatalWrite)
				} else {
					steps(t, m, 1)
					copy(want[addr:], []byte{0xa1, 0xb2, 0xc3, 0xd4}[4-n:])
				}
				if !slices.Equal(m.Memory().Bytes(), want) {
					t.Error(name, a, i)
				}
			}
		}
		for _, a := range []uint32{ramAt - 1, ramAt - n, 0, top, memEnd - n + 1, memEnd, big} {
			failsAs(t, name, []uint32{a, 0, 5}, api.FatalWrite)
		}
		for _, a := range []uint32{ramAt, memEnd - n} {
			comesTo(t, name, []uint32{a, 0, 5})
			comesTo(t, name, []uint32{a + n, top, 5})
		}
	}
	// Over the bound of what may be written nothing is.
	m := machine(t, nil, in("astore", c(ramAt-2), none, c(top)))
	before := m.Memory().Bytes()
	fails(t, m, api.FatalWrite)
	if !slices.Equal(before, m.Memory().Bytes()) {
		t.Error("half of it is written")
	}
}

// bitOf: the bit b of a row of bytes whose middle is at a: the byte and the bit in it, counted one by one.
func bitOf(a uint32, b int) (addr uint32, bit int) {
	addr = a
	for ; b < 0; b += 8 {
		addr--
	}
	for ; b > 7; b -= 8 {
		addr++
	}
	return addr, b
}

func TestBitsOfRows(t *testing.T) {
	for _, b := range []int{-1000, -17, -16, -15, -9, -8, -7, -2, -1, 0, 1, 6, 7, 8, 9, 15, 16, 1000} {
		const a = 0xa00
		addr, bit := bitOf(a, b)
		for value := range uint32(256) {
			if value%5 > 1 {
				continue
			}
			m := machine(t, nil, in("aloadbit", c(a), c(uint32(b)), sp))
			if e := m.Memory().Write(addr, 1, value); e != api.OK {
				t.Fatal(e)
			}
			steps(t, m, 1)
			hasValues(t, m, value>>bit&1)
			for _, x := range append(edges(), 2, 256) {
				m := machine(t, nil, in("astorebit", c(a), c(uint32(b)), c(x)))
				m.Memory().Write(addr, 1, value)
				want := m.Memory().Bytes()
				want[addr] |= 1 << bit
				if x == 0 {
					want[addr] ^= 1 << bit
				}
				steps(t, m, 1)
				if !slices.Equal(m.Memory().Bytes(), want) {
					t.Error(b, value, x)
				}
			}
			if t.Failed() {
				t.Fatal(b, value)
			}
		}
	}
}

func TestBitsFarAway(t *testing.T) {
	// As an integer b has 2^28 bytes at the most on either side.
	for _, x := range []struct {
		a, b uint32
		addr uint32
		bit  int
	}{
		{1<<28 + 0x900, big, 0x900, 0},
		{1<<28 + 0x900, big + 13, 0x901, 5},
		{1<<32 - 1<<28 + 0x901, big - 1, 0x900, 7},
		{0x900 + 1<<32 - (1<<28 - 1), big - 1 - 7, 0x900, 0},
		{0, 8 * 0x900, 0x900, 0},
		{0x901, top, 0x900, 7},
		{0x902, 1<<32 - 9, 0x900, 7},
	} {
		m := machine(t, nil, in("astorebit", c(x.a), c(x.b), c(1)), in("aloadbit", c(x.a), c(x.b), sp), in("astorebit", c(x.a), c(x.b), none), in("aloadbit", c(x.a), c(x.b), sp))
		want := m.Memory().Bytes()
		steps(t, m, 2)
		want[x.addr] = 1 << x.bit
		if !slices.Equal(m.Memory().Bytes(), want) {
			t.Errorf("%x %x", x.a, x.b)
		}
		steps(t, m, 2)
		hasValues(t, m, 0, 1)
		hasWord(t, m, x.addr, 0)
	}
	for _, x := range []struct{ a, b uint32 }{{0, top}, {0, big}, {memEnd, 0}, {memEnd - 1, 8}, {0x900, big}, {0x900, big - 1}, {top, 0}, {big, 0}} {
		failsAs(t, "aloadbit", []uint32{x.a, x.b}, api.FatalRead)
		m := single(t, "astorebit", x.a, x.b, 1)
		if e := m.Step(); e != api.FatalRead && e != api.FatalWrite {
			t.Error(x, e)
		}
	}
	comesTo(t, "aloadbit", []uint32{0, 0}, 1) // of G
	comesTo(t, "aloadbit", []uint32{1, top}, 0)
	for _, b := range []uint32{0, 7, 8 * (ramAt - 1), 8*ramAt - 1} {
		failsAs(t, "astorebit", []uint32{0, b, 1}, api.FatalWrite)
		failsAs(t, "astorebit", []uint32{0, b, 0}, api.FatalWrite)
	}
	comesTo(t, "astorebit", []uint32{0, 8 * ramAt, 1})
	comesTo(t, "astorebit", []uint32{0, 8*memEnd - 1, 1})
}

// pushed: a machine with values on its stack, the last one on top.
func pushed(t *testing.T, rows []row, l ...uint32) *Machine {
	t.Helper()
	var all []row
	for _, x := range l {
		all = append(all, in("copy", c(x), sp))
	}
	m := machine(t, nil, append(all, rows...)...)
	steps(t, m, len(l))
	return m
}

func TestValuesOfTheStack(t *testing.T) {
	for n := range uint32(5) {
		var l []uint32
		for i := range n {
			l = append(l, 10+i)
		}
		m := pushed(t, []row{in("stkcount", sp), in("stkcount", local(0))}, l...)
		steps(t, m, 2)
		if x, _ := m.Stack().Peek(0); x != n {
			t.Error(x, n)
		}
		hasLocal(t, m, 0, n+1)
	}
	for i := range uint32(3) {
		m := pushed(t, []row{in("stkpeek", c(i), sp)}, 10, 11, 12)
		steps(t, m, 1)
		hasValues(t, m, 12-i, 12, 11, 10)
	}
	for _, i := range []uint32{3, 4, big - 1, big, top} {
		m := pushed(t, []row{in("stkpeek", c(i), local(0))}, 10, 11, 12)
		fails(t, m, api.FatalUnder)
		hasValues(t, m, 12, 11, 10)
	}
	m := pushed(t, []row{in("stkswap")}, 10, 11, 12)
	steps(t, m, 1)
	hasValues(t, m, 11, 12, 10)
	fails(t, pushed(t, []row{in("stkswap")}, 10), api.FatalUnder)
	fails(t, pushed(t, []row{in("stkswap")}), api.FatalUnder)
	// The values of the one who called are not this one's.
	m = machine(t, laid{fAt: fun(t, api.FuncLocals, nil, in("stkcount", at(keptAt)), in("stkpeek", none, sp))}, in("copy", c(1), sp), in("callf", c(fAt), none))
	steps(t, m, 3)
	hasWord(t, m, keptAt, 0)
	fails(t, m, api.FatalUnder)
}

func TestRolledValues(t *testing.T) {
	for _, x := range []struct {
		n, k uint32
		want []uint32 // the lowest first
	}{
		{5, 1, []uint32{8, 9, 0, 5, 1, 2, 3, 4}}, {5, 0, []uint32{8, 9, 0, 1, 2, 3, 4, 5}}, {5, 5, []uint32{8, 9, 0, 1, 2, 3, 4, 5}}, {5, top, []uint32{8, 9, 0, 2, 3, 4, 5, 1}}, {5, 6, []uint32{8, 9, 0, 5, 1, 2, 3, 4}},
		{0, 3, []uint32{8, 9, 0, 1, 2, 3, 4, 5}}, {1, 3, []uint32{8, 9, 0, 1, 2, 3, 4, 5}}, {8, 2, []uint32{4, 5, 8, 9, 0, 1, 2, 3}}, {5, big, []uint32{8, 9, 0, 4, 5, 1, 2, 3}}, {5, big - 1, []uint32{8, 9, 0, 4, 5, 1, 2, 3}},
	} {
		m := pushed(t, []row{in("stkroll", c(x.n), c(x.k))}, 8, 9, 0, 1, 2, 3, 4, 5)
		steps(t, m, 1)
		l := values(t, m)
		slices.Reverse(l)
		if !slices.Equal(l, x.want) {
			t.Error(x, l)
		}
	}
	for _, n := range []uint32{3, big, top} {
		m := pushed(t, []row{in("stkroll", c(n), c(1))}, 8, 9)
		fails(t, m, api.FatalUnder)
		hasValues(t, m, 9, 8)
		fails(t, pushed(t, []row{in("stkcopy", c(n))}, 8, 9), api.FatalUnder)
	}
}

func TestCopiedValues(t *testing.T) {
	for n, want := range [][]uint32{{12, 11, 10}, {12, 12, 11, 10}, {12, 11, 12, 11, 10}, {12, 11, 10, 12, 11, 10}} {
		m := pushed(t, []row{in("stkcopy", c(uint32(n)))}, 10, 11, 12)
		steps(t, m, 1)
		hasValues(t, m, want...)
	}
	// 256 bytes, of which the frame has 28: 57 values.
	var l []row
	for range 30 {
		l = append(l, in("copy", c(1), sp))
	}
	for n, want := range map[uint32]api.Errno{27: api.OK, 28: api.FatalOver, 30: api.FatalOver, 31: api.FatalUnder} {
		m := begun(t, gameBytes(t, 256, laid{start: fun(t, api.FuncLocals, locals(4), append(slices.Clone(l), in("stkcopy", c(n)))...)}), world(t))
		steps(t, m, 30)
		if e := m.Step(); e != want {
			t.Error(n, e)
		}
	}
}

func TestSearches(t *testing.T) {
	// Six structures of six bytes: a key of two bytes, and one more; and a chain of three.
	structures := []byte{0, 1, 0, 0, 0, 9, 0, 3, 0, 0, 0, 8, 0, 5, 0, 0, 0, 7, 0, 7, 0, 0, 0, 6, 0, 9, 0, 0, 0, 5, 0, 0, 0, 0, 0, 4}
	chain := []byte{0, 0, 9, 0x50, 'a', 0, 0, 0, 0, 0, 0, 0, 0, 0, 0, 0, 0, 0, 9, 0x60, 'b', 0, 0, 0, 0, 0, 0, 0, 0, 0, 0, 0, 0, 0, 0, 0, 'c'}
	l := laid{0x900: structures, 0x940: chain}
	for _, x := range []struct {
		name string
		args []uint32
		want uint32
	}{
		{"linearsearch", []uint32{5, 2, 0x900, 6, 6, 0, 0}, 0x90c},
		{"linearsearch", []uint32{5, 2, 0x900, 6, 6, 0, 4}, 2},
		{"linearsearch", []uint32{6, 2, 0x900, 6, 6, 0, 0}, 0},
		{"linearsearch", []uint32{6, 2, 0x900, 6, 6, 0, 4}, top},
		{"linearsearch", []uint32{9, 2, 0x900, 6, top, 0, 2}, 0x918},
		{"linearsearch", []uint32{11, 2, 0x900, 6, top, 0, 2}, 0},
		{"linearsearch", []uint32{5, 1, 0x900, 6, 6, 5, 0}, 0x918},
		{"linearsearch", []uint32{0x90c, 2, 0x900, 6, 6, 0, 1}, 0x90c},
		{"linearsearch", []uint32{5, 2, 0x900, 6, 2, 0, 0}, 0},
		{"binarysearch", []uint32{5, 2, 0x900, 6, 5, 0, 0}, 0x90c},
		{"binarysearch", []uint32{9, 2, 0x900, 6, 5, 0, 4}, 4},
		{"binarysearch", []uint32{6, 2, 0x900, 6, 5, 0, 0}, 0},
		{"binarysearch", []uint32{6, 2, 0x900, 6, 5, 0, 4}, top},
		{"linkedsearch", []uint32{'b', 1, 0x940, 4, 0, 0}, 0x950},
		{"linkedsearch", []uint32{'c', 1, 0x940, 4, 0, 0}, 0x960},
		{"linkedsearch", []uint32{'d', 1, 0x940, 4, 0, 0}, 0},
		{"linkedsearch", []uint32{'c', 1, 0x950, 4, 0, 2}, 0x960},
		{"linkedsearch", []uint32{0, 1, 0, 4, 0, 0}, 0},
	} {
		m := machine(t, l, singleRow(t, x.name, x.args...))
		steps(t, m, 1)
		hasValues(t, m, x.want)
		if t.Failed() {
			t.Fatal(x.name, x.args)
		}
	}
	for _, x := range []struct {
		name string
		args []uint32
		want api.Errno
	}{
		{"linearsearch", []uint32{5, 0, 0x900, 6, 6, 0, 0}, api.FatalKey},
		{"linearsearch", []uint32{5, 5, 0x900, 6, 6, 0, 0}, api.FatalKey},
		{"linearsearch", []uint32{5, 2, memEnd, 6, 6, 0, 0}, api.FatalRead},
		{"binarysearch", []uint32{5, 3, 0x900, 6, 6, 0, 0}, api.FatalKey},
		{"binarysearch", []uint32{5, 2, top, 6, 6, 0, 0}, api.FatalRead},
		{"linkedsearch", []uint32{5, 3, 0x900, 6, 6, 0}, api.FatalKey},
		{"linkedsearch", []uint32{5, 2, memEnd - 1, 0, 4, 0}, api.FatalRead},
	} {
		m := machine(t, l, singleRow(t, x.name, x.args...))
		fails(t, m, x.want)
		hasValues(t, m)
	}
	// One that is its own next one.
	m := machine(t, laid{0x900: {0, 0, 9, 0, 'a'}}, in("linkedsearch", c('b'), c(1), c(0x900), c(4), none, none, sp))
	fails(t, m, api.FatalLoop)
}

func TestSearchesWithEdges(t *testing.T) {
	for name, letters := range map[string]int{"linearsearch": 7, "binarysearch": 7, "linkedsearch": 6} {
		for i := range letters {
			for _, x := range edges() {
				l := []uint32{5, 2, 0x900, 6, 6, 0, 0}
				if letters == 6 {
					l = []uint32{5, 2, 0, 0, 4, 0}
				}
				l[i] = x
				seen := newTally()
				compare(t, seen, gameBytes(t, 1024, laid{start: fun(t, api.FuncLocals, locals(4), singleRow(t, name, l...), in("quit"))}), 5)
				if seen.done[name]+seen.failed[name] != 1 {
					t.Error(name, l)
				}
			}
		}
	}
}
