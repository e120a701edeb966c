package exec

import (
	"slices"
	"testing"

	"grotto/api"
)

func TestGestalt(t *testing.T) {
	has := map[uint32]uint32{0: 0x30103, 1: 0x100, 2: 1, 3: 1, 5: 1, 6: 1, 7: 1, 9: 1, 11: 1, 12: 1, 13: 1}
	others := append(edges(), 2, 3, 4, 13, 14, 0x100)
	for a := range uint32(40) {
		if a == 4 || a == 8 || a == 10 {
			continue
		}
		for _, b := range others {
			comesTo(t, "gestalt", []uint32{a, b}, has[a])
		}
	}
	for _, a := range []uint32{0x1000, 0x10000, big - 1, big, big + 4, 0x104, 0x10a, top} {
		for _, b := range others {
			comesTo(t, "gestalt", []uint32{a, b}, 0)
		}
	}
	for b, want := range map[uint32]uint32{0: 1, 1: 1, 2: 1, 3: 0, 4: 0, big - 1: 0, big: 0, top: 0} {
		comesTo(t, "gestalt", []uint32{4, b}, want)
	}
	for b := range uint32(30) {
		want := uint32(0)
		if b >= 1 && b <= 13 {
			want = 1
		}
		comesTo(t, "gestalt", []uint32{10, b}, want)
	}
	for _, b := range []uint32{big - 1, big, big + 1, top, 256 + 1} {
		comesTo(t, "gestalt", []uint32{10, b}, 0)
	}
}

func TestGestaltOfTheHeap(t *testing.T) {
	ask := in("gestalt", c(8), c(5), sp)
	m := machine(t, nil, ask, in("malloc", c(5), local(0)), ask, in("malloc", c(1), none), ask, in("mfree", local(0)), ask)
	steps(t, m, 7)
	hasValues(t, m, memEnd, memEnd, memEnd, 0)
	m = machine(t, nil, in("setmemsize", c(memEnd+0x100), none), in("malloc", c(5), local(0)), ask, in("mfree", local(0)), ask)
	steps(t, m, 5)
	hasValues(t, m, 0, memEnd+0x100)
}

func TestSizeOfMemory(t *testing.T) {
	for _, x := range []struct{ n, answer, size uint32 }{
		{memEnd, 0, memEnd}, {memEnd + 0x100, 0, memEnd + 0x100}, {api.MaxMem, 0, api.MaxMem}, {memEnd + 1, 1, memEnd}, {memEnd - 0x100, 1, memEnd}, {0, 1, memEnd}, {1, 1, memEnd}, {big - 1, 1, memEnd}, {big, 1, memEnd}, {top, 1, memEnd}, {top - 0xff, 1, memEnd}, {api.MaxMem + 0x100, 1, memEnd}, {memEnd + 0x80, 1, memEnd},
	} {
		m := machine(t, nil, in("getmemsize", sp), in("setmemsize", c(x.n), sp), in("getmemsize", sp))
		steps(t, m, 3)
		hasValues(t, m, x.size, x.answer, memEnd)
		if n := m.Memory().Size(); n != x.size {
			t.Errorf("%x: %x", x.n, n)
		}
	}
	// Where the heap is active it can't be done, even if it is the size that memory has.
	m := machine(t, nil, in("malloc", c(1), none), in("getmemsize", sp), in("setmemsize", c(memEnd), sp), in("setmemsize", c(memEnd+0x100), sp))
	steps(t, m, 4)
	hasValues(t, m, 1, 1, memEnd+0x100)
	// Less again, and what grows anew is 0.
	m = machine(t, nil, in("setmemsize", c(memEnd+0x200), sp), in("copy", c(top), at(memEnd)), in("setmemsize", c(memEnd), sp), in("setmemsize", c(memEnd+0x100), sp), in("copy", at(memEnd), sp))
	steps(t, m, 5)
	hasValues(t, m, 0, 0, 0, 0)
}

func TestMzeroAndMcopy(t *testing.T) {
	before := machine(t, numbered(), in("nop")).Memory().Bytes()
	for _, x := range []struct {
		n, addr uint32
		want    api.Errno
	}{
		{0, 0, api.OK}, {0, top, api.OK}, {0, big, api.OK}, {1, 0x900, api.OK}, {16, 0x908, api.OK}, {256, 0x900, api.OK}, {memEnd - ramAt, ramAt, api.OK},
		{1, 0, api.FatalWrite}, {1, ramAt - 1, api.FatalWrite}, {2, ramAt - 1, api.FatalWrite}, {1, memEnd, api.FatalWrite}, {2, memEnd - 1, api.FatalWrite}, {1, top, api.FatalWrite}, {2, top, api.FatalWrite}, {big - 1, 0x900, api.FatalWrite}, {big, 0x900, api.FatalWrite}, {top, 0x900, api.FatalWrite}, {1, big, api.FatalWrite},
	} {
		m := machine(t, numbered(), in("mzero", c(x.n), c(x.addr)))
		want := m.Memory().Bytes()
		if e := m.Step(); e != x.want {
			t.Error(x, e)
		} else if e == api.OK {
			for i := range x.n {
				want[x.addr+i] = 0
			}
		}
		if !slices.Equal(want, m.Memory().Bytes()) {
			t.Error(x)
		}
	}
	for _, x := range []struct {
		n, from, to uint32
		want        api.Errno
	}{
		{0, 0, 0, api.OK}, {0, top, top, api.OK}, {0, big, 0x900, api.OK}, {1, 0, ramAt, api.OK}, {16, 0x900, 0x908, api.OK}, {16, 0x908, 0x900, api.OK}, {36, 0, 0x900, api.OK}, {100, 0x900, 0x900, api.OK},
		{1, 0x900, 0, api.FatalWrite}, {1, 0x900, ramAt - 1, api.FatalWrite}, {4, 0x900, memEnd - 3, api.FatalWrite}, {1, memEnd, 0x900, api.FatalRead}, {2, memEnd - 1, 0x900, api.FatalRead}, {1, top, top, api.FatalRead}, {1, memEnd, 0, api.FatalRead}, {big, 0x900, 0x900, api.FatalRead}, {big - 1, 0x900, 0x900, api.FatalRead}, {top, 0x900, 0x900, api.FatalRead}, {1, 0, top, api.FatalWrite},
	} {
		m := machine(t, numbered(), in("mcopy", c(x.n), c(x.from), c(x.to)))
		want := slices.Clone(before)
		copy(want, m.Memory().Bytes()[:ramAt])
		if e := m.Step(); e != x.want {
			t.Error(x, e)
		} else if e == api.OK && x.n > 0 {
			copy(want[x.to:x.to+x.n], slices.Clone(want[x.from:x.from+x.n]))
		}
		if !slices.Equal(want, m.Memory().Bytes()) {
			t.Error(x)
		}
	}
}

func TestMallocAndMfree(t *testing.T) {
	m := machine(t, nil,
		in("malloc", c(5), sp), in("malloc", c(0x100), sp), in("malloc", none, sp), in("malloc", c(big), sp), in("malloc", c(top), sp), in("malloc", c(big-1), sp), in("malloc", c(1), sp),
		in("getmemsize", sp), in("mfree", c(memEnd)), in("malloc", c(5), sp))
	steps(t, m, 8)
	hasValues(t, m, memEnd+0x200, memEnd+0x105, 0, 0, 0, 0, memEnd+5, memEnd)
	steps(t, m, 2)
	if x, _ := m.Stack().Peek(0); x != memEnd {
		t.Errorf("%x", x)
	}
	if begin, l := m.Memory().Heap(); begin != memEnd || len(l) != 3 {
		t.Error(begin, l)
	}
	for _, x := range append(edges(), memEnd, memEnd+1, memEnd+2, ramAt) {
		failsAs(t, "mfree", []uint32{x}, api.FatalHeap)
		if x != memEnd {
			m := machine(t, nil, in("malloc", c(5), none), in("mfree", c(x)))
			steps(t, m, 1)
			fails(t, m, api.FatalHeap)
		}
	}
	m = machine(t, nil, in("malloc", c(5), local(0)), in("mfree", local(0)), in("getmemsize", sp), in("mfree", local(0)))
	steps(t, m, 3)
	hasValues(t, m, memEnd)
	fails(t, m, api.FatalHeap)
	// Where the answer can't be stored the block is taken.
	m = machine(t, nil, in("malloc", c(5), at(0)))
	fails(t, m, api.FatalWrite)
	if _, l := m.Memory().Heap(); len(l) != 1 {
		t.Error(l)
	}
}

func TestVerify(t *testing.T) {
	comesTo(t, "verify", nil, 0)
	m := machine(t, nil, in("copy", c(1), at(0x900)), in("verify", at(0x900)))
	steps(t, m, 2)
	hasWord(t, m, 0x900, 0)
}

func TestTableAndModeAndRock(t *testing.T) {
	output := func(m *Machine) [3]uint32 {
		table, mode, rock := m.Output()
		return [3]uint32{table, mode, rock}
	}
	for _, a := range edges() {
		m := machine(t, nil, in("setstringtbl", c(a)), in("getstringtbl", sp))
		steps(t, m, 2)
		hasValues(t, m, a)
		if o := output(m); o != [3]uint32{a, 0, 0} {
			t.Error(o)
		}
		for _, b := range append(edges(), 2, 3, 4) {
			m := machine(t, nil, in("setiosys", c(b), c(a)), in("getiosys", sp, local(4)), in("getstringtbl", sp))
			steps(t, m, 3)
			mode := uint32(0)
			if b <= 2 {
				mode = b
			}
			hasValues(t, m, 0, mode)
			hasLocal(t, m, 4, a)
			if o := output(m); o != [3]uint32{0, mode, a} {
				t.Error(o)
			}
		}
	}
	m := machine(t, nil, in("setiosys", c(2), c(5)), in("setiosys", c(3), c(6)), in("getiosys", sp, sp))
	steps(t, m, 3)
	hasValues(t, m, 6, 0)
}

func TestHastenedFunctions(t *testing.T) {
	f := fun(t, api.FuncLocals, locals(1), in("return", c(77)))
	call := in("callfi", c(fAt), c(start), sp)
	// The function 1 of an address where a function begins is 2.
	for _, x := range []struct {
		n    uint32
		fast bool
	}{{1, true}, {13, true}, {0, false}, {14, false}, {big - 1, false}, {big, false}, {top, false}, {257, false}} {
		m := machine(t, laid{fAt: f}, in("accelfunc", c(x.n), c(fAt)), call, in("nop"))
		steps(t, m, 2)
		if !x.fast {
			hasPC(t, m, fAt+5)
			continue
		}
		hasPC(t, m, first+uint32(len(asm(t, in("accelfunc", c(x.n), c(fAt)), call))))
		hasValues(t, m, map[uint32]uint32{1: 2, 13: 0}[x.n])
	}
	// It is no more, if 0 is said; and stays, if a number is that there is not.
	m := machine(t, laid{fAt: f}, in("accelfunc", c(1), c(fAt)), in("accelfunc", c(14), c(fAt)), call, in("accelfunc", none, c(fAt)), call)
	steps(t, m, 3)
	hasValues(t, m, 2)
	steps(t, m, 2)
	hasPC(t, m, fAt+5)
	// The address need not be a function's, or in memory: it has arguments as many as there are.
	for _, f := range []uint32{0, big, top, first} {
		m := machine(t, nil, in("accelfunc", c(1), c(f)), in("copy", c(start), sp), in("call", c(f), c(1), sp), in("callf", c(f), sp), in("callfiii", c(f), c(start), c(7), c(8), sp))
		steps(t, m, 5)
		hasValues(t, m, 2, 0, 2)
	}
}

func TestHastenedWithParams(t *testing.T) {
	// Has of a function, and of Indiv + 5: 1.
	for _, x := range edges() {
		m := machine(t, nil, in("accelfunc", c(7), c(fAt)), in("accelparam", c(api.ParamIndiv), c(x)), in("callfii", c(fAt), c(start), c(x+5), sp), in("callfii", c(fAt), c(start), c(x+6), sp))
		steps(t, m, 4)
		hasValues(t, m, 0, 1)
	}
	for _, i := range []uint32{9, 10, big - 1, big, big + 1, top, 257} {
		m := machine(t, nil, in("accelfunc", c(7), c(fAt)), in("accelparam", c(i), c(5)), in("callfii", c(fAt), c(start), c(5), sp))
		steps(t, m, 3)
		hasValues(t, m, 1)
	}
	for i := range uint32(9) {
		m := machine(t, nil, in("accelparam", c(i), c(500+i)))
		steps(t, m, 1)
		want := make([]uint32, 9)
		want[i] = 500 + i
		if l := m.fast.Params(); !slices.Equal(l, want) {
			t.Error(i, l)
		}
	}
}

func TestHastenedErrors(t *testing.T) {
	// A byte that is no more there is not read: below 36, and beyond the end, it is no object. W(Classes + ..) is not there.
	m := machine(t, nil, in("accelfunc", c(3), c(fAt)), in("accelparam", c(api.ParamClasses), c(top)), in("callfii", c(fAt), c(0x900), c(0x10000), sp))
	steps(t, m, 2)
	fails(t, m, api.FatalRead)
}

func TestSlips(t *testing.T) {
	const find = "\n[** Programming error: tried to find the \".\" of (something) **]\n"
	for mode := range uint32(3) {
		for _, x := range []struct {
			addr uint32
			want string
		}{{5, find}, {start, find}, {0xa80, ""}} {
			w := world(t)
			openWindow(t, w)
			m := machineIn(t, w, laid{rockAt: keeper(t), 0xa80: {0x70}},
				in("accelfunc", c(2), c(fAt)), in("setiosys", c(mode), c(rockAt)), in("callfii", c(fAt), c(x.addr), c(1), sp), in("nop"))
			steps(t, m, 3)
			hasValues(t, m, 0)
			want := x.want
			if mode != 2 {
				want = ""
			}
			if s := told(w); s != want {
				t.Errorf("mode %d: %q; want %q", mode, s, want)
			}
			if s := kept(t, m); s != "" {
				t.Errorf("%q", s)
			}
			steps(t, m, 1)
		}
	}
	// The others: a class that is none, and a number that is not there.
	w := world(t)
	openWindow(t, w)
	m := machineIn(t, w, laid{0x900: {0x70}, 0x940: {0x70}}, in("setiosys", c(2), none), in("accelfunc", c(5), c(fAt)), in("accelfunc", c(6), c(gAt)), in("accelparam", c(api.ParamClass), c(9)),
		in("callfii", c(fAt), c(0x900), c(0x940), local(0)), in("callfii", c(gAt), c(0x900), c(1), local(0)))
	steps(t, m, 6)
	const class, read = "\n[** Programming error: tried to apply 'ofclass' with non-class **]\n", "\n[** Programming error: tried to read (something) **]\n"
	if s := told(w); s != class+read {
		t.Errorf("%q", s)
	}
}

func TestTailcallOfAHastenedFunction(t *testing.T) {
	l := laid{gAt: fun(t, api.FuncLocals, nil, in("copy", c(start), sp), in("tailcall", c(fAt), c(1)))}
	m := machine(t, l, in("accelfunc", c(1), c(fAt)), in("callf", c(gAt), local(4)), in("nop"))
	steps(t, m, 4)
	hasLocal(t, m, 4, 2)
	steps(t, m, 1)
	// Start itself: a restart that finds its Start hastened is over.
	m = machine(t, nil, in("accelfunc", c(1), c(start)), in("restart"))
	steps(t, m, 1)
	ends(t, m)
}

// calls: the rows of a call of the world, with its arguments.
func calls(sel uint32, answer api.Operand, args ...uint32) []row {
	var l []row
	for _, x := range slices.Backward(args) {
		l = append(l, in("copy", c(x), sp))
	}
	return append(l, in("glk", c(sel), c(uint32(len(args))), answer))
}

func TestCallsOfTheWorld(t *testing.T) {
	w := world(t, line("go"))
	rows := window()
	rows = append(rows, calls(api.GlkPut, local(0), 'H')...)
	rows = append(rows, calls(api.GlkLineAsk, none, 1, 0x900, 10, 0)...)
	rows = append(rows, calls(api.GlkSelect, local(4), top)...)
	m := machineIn(t, w, nil, append(rows, calls(api.GlkSelect, none, top)...)...)
	m.Stack().SetLocal(0, 4, 5)
	m.Stack().SetLocal(4, 4, 5)
	n, e := m.Run(1000)
	if n != len(rows)+1 || e != api.ErrInput {
		t.Error(n, e)
	}
	if s := told(w); s != "Hgo\n" {
		t.Errorf("%q", s)
	}
	hasValues(t, m, 0, 2, 1, 3)
	hasLocal(t, m, 0, 0)
	hasLocal(t, m, 4, 0)
	hasWord(t, m, 0x900, 'g'<<24|'o'<<16)
	if w.Left() != 0 {
		t.Error(w.Left())
	}
	fails(t, m, api.ErrInput)
}

func TestAnswersOfTheWorld(t *testing.T) {
	for _, o := range []api.Operand{none, at(0x900), ram(0x100), local(8), sp} {
		m := machine(t, nil, calls(api.GlkLower, o, 'A')...)
		steps(t, m, 2)
		switch o.Mode {
		case api.ModeZero:
			hasValues(t, m)
		case api.ModeLocal4:
			hasLocal(t, m, 8, 'a')
		case api.ModeStack:
			hasValues(t, m, 'a')
		default:
			hasWord(t, m, 0x900, 'a')
		}
	}
	// The first argument is the one on top: GlkAsk of 1 and 65 is 1, of 65 and 1 0.
	for _, x := range [][3]uint32{{1, 65, 1}, {65, 1, 0}} {
		m := machine(t, nil, calls(api.GlkAsk, sp, x[0], x[1])...)
		steps(t, m, 3)
		hasValues(t, m, x[2])
	}
	// What is pushed by the call lies below what it answers.
	m := machine(t, nil, append(window(), calls(api.GlkWinSize, sp, 1, top, top)...)...)
	steps(t, m, 8+4)
	hasValues(t, m, 0, 24, 80)
}

func TestErrorsOfTheWorld(t *testing.T) {
	for _, x := range []struct {
		sel  uint32
		args []uint32
		want api.Errno
	}{
		{0x9999, nil, api.FatalCall}, {0, nil, api.FatalCall}, {big - 1, nil, api.FatalCall}, {big, nil, api.FatalCall}, {top, nil, api.FatalCall}, {api.GlkPut, nil, api.FatalCall}, {api.GlkPut, []uint32{1, 2}, api.FatalCall}, {api.GlkExit, []uint32{0}, api.FatalCall},
		{api.GlkSelect, []uint32{0x900}, api.ErrInput}, {api.GlkPutBuffer, []uint32{memEnd, 1}, api.FatalRead}, {api.GlkWinNext, []uint32{0, 8}, api.FatalWrite}, {api.GlkWinNext, []uint32{0, memEnd - 3}, api.FatalWrite}, {api.GlkRefName, []uint32{0, memEnd, 0}, api.FatalRead},
	} {
		rows := calls(x.sel, none, x.args...)
		m := machine(t, nil, rows...)
		steps(t, m, len(rows)-1)
		fails(t, m, x.want)
		hasValues(t, m)
	}
	for _, n := range []uint32{1, 2, big - 1, big, top} {
		m := machine(t, nil, in("glk", c(api.GlkPut), c(n), none))
		fails(t, m, api.FatalUnder)
		m = machine(t, nil, in("copy", c(5), sp), in("glk", c(api.GlkPut), c(n), none))
		steps(t, m, 1)
		if n == 1 {
			steps(t, m, 1)
			continue
		}
		fails(t, m, api.FatalUnder)
	}
	// A stack without room for what is handed to it: a frame of 240 bytes, or 244, and four values.
	for n, want := range map[byte]api.Errno{57: api.OK, 58: api.FatalOver} {
		m := begun(t, gameBytes(t, 256, laid{start: fun(t, api.FuncLocals, []byte{4, n}, calls(api.GlkSelect, none, top)...)}), world(t, api.Input{}, line("x")))
		steps(t, m, 1)
		m.world.Call(space{m.mem, m.stk}, api.GlkWinOpen, 0, 0, 0, api.WinText, 0)
		m.world.Call(space{m.mem, m.stk}, api.GlkCharAsk, 1)
		if e := m.Step(); e != want {
			t.Error(n, e)
		}
		if m.world.Left() != 1 {
			t.Error(m.world.Left())
		}
	}
}

func TestTheWorldIsOver(t *testing.T) {
	for _, o := range []api.Operand{none, local(0), sp} {
		w := world(t)
		m := machineIn(t, w, nil, in("copy", c(5), local(0)), in("glk", c(api.GlkExit), none, o), in("nop"))
		steps(t, m, 1)
		ends(t, m)
		if !w.Over() {
			t.Error("it is not over")
		}
		if o.Mode == api.ModeLocal4 {
			hasLocal(t, m, 0, 0)
		}
		// In a world that is over another machine goes on, up to its first call.
		m = machineIn(t, w, nil, in("nop"), in("glk", c(api.GlkLower), c(0), none))
		steps(t, m, 1)
		fails(t, m, api.ErrOver)
	}
	// Where what it answers can't be stored, that is the error.
	m := machine(t, nil, in("glk", c(api.GlkExit), none, at(0)))
	fails(t, m, api.FatalWrite)
}

func TestQuit(t *testing.T) {
	m := machine(t, laid{fAt: fun(t, api.FuncLocals, nil, in("copy", c(4), sp), in("quit"), in("nop"))}, in("callf", c(fAt), none))
	steps(t, m, 2)
	ends(t, m)
	hasValues(t, m, 4)
	hasPC(t, m, fAt+3+uint32(len(asm(t, in("copy", c(4), sp), in("quit")))))
	if m.Stack().Count() != 1 {
		t.Error(m.Stack().Count())
	}
}

func TestACurrentStreamThatIsNoWindows(t *testing.T) {
	// What is put comes to where the current stream lies: into memory, as soon as it is closed.
	w := world(t)
	rows := calls(api.GlkStrMemory, local(0), 0x900, 8, 1, 0)
	rows = append(rows, in("copy", local(0), sp), in("glk", c(api.GlkStrSet), c(1), none), in("setiosys", c(2), none), in("streamnum", c(1<<32-42)), in("streamchar", c('x')), in("streamunichar", c(0x1234)),
		in("copy", c(top), sp), in("copy", local(0), sp), in("glk", c(api.GlkStrClose), c(2), none))
	m := machineIn(t, w, nil, rows...)
	steps(t, m, len(rows))
	hasWord(t, m, 0x900, '-'<<24|'4'<<16|'2'<<8|'x')
	hasWord(t, m, 0x904, 63<<24)
	hasValues(t, m, 5, 0)
	if s := told(w); s != "" {
		t.Errorf("%q", s)
	}
}
