package exec

import (
	"slices"
	"testing"

	"grotto/api"
	"grotto/header"
)

func TestNewBegins(t *testing.T) {
	m := machine(t, nil, in("nop"))
	hasPC(t, m, first)
	if table, mode, rock := m.Output(); table != 0 || mode != 0 || rock != 0 {
		t.Error(table, mode, rock)
	}
	if n := m.Undos(); n != 0 {
		t.Error(n)
	}
	// A frame with four locals: 8 bytes, the format 4 4 0 0, the locals.
	want := []byte{0, 0, 0, 28, 0, 0, 0, 12, 4, 4, 0, 0, 0, 0, 0, 0, 0, 0, 0, 0, 0, 0, 0, 0, 0, 0, 0, 0}
	if b := m.Stack().Bytes(); !slices.Equal(b, want) {
		t.Error(b)
	}
	if f, ok := m.Stack().Frame(); f != 0 || !ok {
		t.Error(f, ok)
	}
	if n := m.Memory().Size(); n != memEnd {
		t.Error(n)
	}
}

func TestNewMemoryIsTheGame(t *testing.T) {
	g := gameBytes(t, 512, laid{start: fun(t, api.FuncLocals, nil, in("quit")), 0x900: {1, 2, 3}})
	m := begun(t, g, world(t))
	if !slices.Equal(m.Memory().Game(), g) || !slices.Equal(m.Memory().Bytes(), append(slices.Clone(g), make([]byte, memEnd-extAt)...)) {
		t.Error("another memory")
	}
	if h := m.Memory().Header(); h.Start != start || h.StackSize != 512 {
		t.Error(h)
	}
}

func TestNewTableIsTheHeaders(t *testing.T) {
	b := make([]byte, extAt-header36)
	copy(b, fun(t, api.FuncLocals, nil, in("quit")))
	g, e := header.Make(api.Header{Version: 0x20000, RamStart: ramAt, ExtStart: extAt, EndMem: memEnd, StackSize: 256, Start: start, Table: 0x123}, b)
	if e != api.OK {
		t.Fatal(e)
	}
	m := begun(t, g, world(t))
	if table, mode, rock := m.Output(); table != 0x123 || mode != 0 || rock != 0 {
		t.Error(table, mode, rock)
	}
}

func TestNewKeepsNothingOfTheGame(t *testing.T) {
	g := gameBytes(t, 512, laid{start: fun(t, api.FuncLocals, nil, in("copy", c(5), at(keptAt)), in("quit"))})
	spare := append(slices.Clone(g), 1, 2, 3)[:len(g)]
	m := begun(t, spare, world(t))
	for i := range spare {
		spare[i] = 0xff
	}
	if n, e := m.Run(9); n != 2 || e != api.ErrOver {
		t.Error(n, e)
	}
	hasWord(t, m, keptAt, 5)
	if x := spare[:len(g)+3][len(g):]; !slices.Equal(x, []byte{1, 2, 3}) {
		t.Error(x)
	}
}

// startOf: a game whose Start is there, with these bytes.
func startOf(t *testing.T, start, stack uint32, l laid) []byte {
	t.Helper()
	b := make([]byte, extAt)
	for a, x := range l {
		copy(b[a:], x)
	}
	g, e := header.Make(api.Header{Version: 0x30103, RamStart: ramAt, ExtStart: extAt, EndMem: memEnd, StackSize: stack, Start: start}, b[header36:])
	if e != api.OK {
		t.Fatal(e)
	}
	return g
}

func TestNewErrors(t *testing.T) {
	good := gameBytes(t, 256, laid{start: fun(t, api.FuncLocals, nil, in("quit"))})
	sized := func(at int, x byte) []byte {
		b := slices.Clone(good)
		b[at] = x
		return b
	}
	tooBig := []byte{api.FuncLocals, 4, 60, 4, 1, 0, 0}   // 8, 6, 2, 244: 260 bytes
	justFits := []byte{api.FuncLocals, 4, 59, 4, 1, 0, 0} // 256
	for _, x := range []struct {
		name string
		game []byte
		want api.Errno
	}{
		{"good", good, api.OK},
		{"none", nil, api.ErrShort},
		{"another magic", sized(0, 'g'), api.ErrMagic},
		{"short", good[:35], api.ErrShort},
		{"too long", make([]byte, api.MaxMem+1), api.ErrLong},
		{"version", sized(4, 1), api.ErrVersion},
		{"RamStart", sized(11, 1), api.ErrMap},
		{"ExtStart", sized(15, 1), api.ErrMap},
		{"EndMem", sized(19, 1), api.ErrMap},
		{"stack", sized(23, 1), api.ErrStack},
		{"sum", sized(35, good[35]^1), api.ErrSum},
		{"a bit behind", sized(extAt-1, 1), api.ErrSum},
		{"Start is no function", startOf(t, start, 256, nil), api.FatalFunc},
		{"Start is an instruction", startOf(t, first, 256, laid{start: fun(t, api.FuncLocals, locals(1), in("quit"))}), api.FatalFunc},
		{"no format", startOf(t, start, 256, laid{start: {api.FuncLocals, 3, 1, 0, 0}}), api.FatalFunc},
		{"the format ends too early", startOf(t, memEnd-1, 256, nil), api.FatalFunc},
		{"the last function of what was laid", startOf(t, extAt-3, 256, laid{extAt - 3: {api.FuncStack, 0, 0}}), api.OK},
		{"a format at the end", startOf(t, extAt-2, 256, laid{extAt - 2: {api.FuncStack, 4}}), api.FatalFunc},
		{"the stack is too small", startOf(t, start, 256, laid{start: tooBig}), api.FatalOver},
		{"the stack is just great enough", startOf(t, start, 256, laid{start: justFits}), api.OK},
		{"no room for how many arguments there are", startOf(t, start, 256, laid{start: append([]byte{api.FuncStack}, justFits[1:]...)}), api.FatalOver},
	} {
		m, e := New(x.game, world(t))
		if e != x.want || (m == nil) != (e != api.OK) {
			t.Errorf("%s: %v, %d; want %d", x.name, m != nil, e, x.want)
		}
		// A nil world comes ahead of everything.
		if m, e := New(x.game, nil); m != nil || e != api.ErrNil {
			t.Errorf("%s without a world: %v, %d", x.name, m != nil, e)
		}
	}
}

func TestStartWithItsArgumentsOnTheStack(t *testing.T) {
	m := begun(t, startOf(t, start, 256, laid{start: fun(t, api.FuncStack, nil, in("quit"))}), world(t))
	hasValues(t, m, 0)
	hasPC(t, m, start+3)
}

func TestNilMachine(t *testing.T) {
	var m *Machine
	if e := m.Step(); e != api.ErrNil {
		t.Error(e)
	}
	for _, fuel := range []int{-5, 0, 1, 100} {
		if n, e := m.Run(fuel); n != 0 || e != api.ErrNil {
			t.Error(fuel, n, e)
		}
	}
	table, mode, rock := m.Output()
	if m.PC() != 0 || m.Memory() != nil || m.Stack() != nil || m.Undos() != 0 || table != 0 || mode != 0 || rock != 0 {
		t.Error("a nil machine has something")
	}
}

func TestZeroMachineEnds(t *testing.T) {
	for name := range named() {
		m := &Machine{}
		m.Run(3)
		m.Memory()
		m.Stack()
		m.Output()
		m.Undos()
		m = &Machine{}
		w := work{op: opOf(t, name), name: name, size: 4, s: [2]place{{toMemory, 0}, {toStack, 0}}}
		m.do(w)
		m.tellOn()
	}
	m := &Machine{mode: modeCall}
	m.do(work{op: 0x71, name: "streamnum"})
	m.tellOn()
}

func TestRunFuel(t *testing.T) {
	five := func() *Machine {
		return machine(t, nil, in("nop"), in("nop"), in("nop"), in("nop"), in("quit"))
	}
	for _, x := range []struct {
		fuel, n int
		e       api.Errno
	}{
		{-1 << 63, 0, api.OK}, {-1, 0, api.OK}, {0, 0, api.OK}, {1, 1, api.OK}, {4, 4, api.OK}, {5, 5, api.OK}, {6, 5, api.ErrOver}, {100, 5, api.ErrOver}, {1<<63 - 1, 5, api.ErrOver},
	} {
		m := five()
		if n, e := m.Run(x.fuel); n != x.n || e != x.e {
			t.Errorf("Run(%d): %d, %d", x.fuel, n, e)
		}
		wantPC := uint32(first + x.n)
		if x.n == 5 {
			wantPC++ // quit has two bytes
		}
		hasPC(t, m, wantPC)
	}
	m := five()
	m.Run(5)
	for _, fuel := range []int{-1, 0} {
		if n, e := m.Run(fuel); n != 0 || e != api.OK {
			t.Error("over, without fuel:", n, e)
		}
	}
	if n, e := m.Run(1); n != 0 || e != api.ErrOver {
		t.Error(n, e)
	}
	if e := m.Step(); e != api.ErrOver {
		t.Error(e)
	}
}

func TestRunUpToAnError(t *testing.T) {
	m := machine(t, nil, in("nop"), in("nop"), in("div", c(1), none, sp), in("copy", c(5), at(keptAt)))
	if n, e := m.Run(10); n != 2 || e != api.ErrZero {
		t.Error(n, e)
	}
	if n, e := m.Run(10); n != 0 || e != api.ErrZero {
		t.Error(n, e)
	}
	if n, e := m.Run(0); n != 0 || e != api.OK {
		t.Error(n, e)
	}
	if e := m.Step(); e != api.ErrZero {
		t.Error(e)
	}
	hasWord(t, m, keptAt, 0)
}

func TestAnErrorLeavesWhatCameAhead(t *testing.T) {
	// The first operand is popped, the second one is not there.
	m := machine(t, nil, in("copy", c(5), sp), in("add", sp, local(16), sp))
	steps(t, m, 1)
	fails(t, m, api.FatalLocal)
	hasValues(t, m)
	// What is stored first stays.
	m = machine(t, nil, in("getiosys", at(keptAt), at(0)), in("nop"))
	set4(t, m, keptAt, 5)
	fails(t, m, api.FatalWrite)
	hasWord(t, m, keptAt, 0)
}

func TestMachinesOwnMemoryAndStack(t *testing.T) {
	m := machine(t, nil, in("copy", c(5), at(keptAt)), in("copy", c(6), sp), in("restart"), in("nop"))
	mem, stk := m.Memory(), m.Stack()
	steps(t, m, 2)
	if x, _ := mem.Read(keptAt, 4); x != 5 {
		t.Error(x)
	}
	if stk.Count() != 1 {
		t.Error(stk.Count())
	}
	steps(t, m, 1)
	if m.Memory() != mem || m.Stack() != stk || stk.Count() != 0 {
		t.Error("others behind a restart")
	}
	if x, _ := mem.Read(keptAt, 4); x != 0 {
		t.Error(x)
	}
}

func TestExampleOfTheChapter(t *testing.T) {
	w := world(t)
	openWindow(t, w)
	m := begun(t, gameBytes(t, 256, laid{start: fun(t, api.FuncLocals, nil, in("setiosys", c(2), c(0)), in("streamnum", c(5)), in("quit"))}), w)
	if n, e := m.Run(100); n != 3 || e != api.ErrOver {
		t.Error(n, e)
	}
	if s := told(w); s != "5" {
		t.Errorf("%q", s)
	}
}
