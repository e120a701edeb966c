package exec

import (
	"slices"
	"strings"
	"testing"

	"grotto/api"
	"grotto/code"
	"grotto/glk"
	"grotto/header"
)

// The map of the games that the tests lay: code at 36, other things in what is never changed, and then what may be written.
const (
	start   = 36
	ramAt   = 0x800
	extAt   = 0xc00
	memEnd  = 0x1000
	rockAt  = 0x400 // a function with one local, which keeps what it is called with
	keptAt  = 0x900 // where it keeps it: the place of the next one, and the row
	textAt  = 0x500
	tableAt = 0x600
	top     = 1<<32 - 1
	big     = 1 << 31
)

// operand makes an operand.
func operand(mode int, v uint32) api.Operand { return api.Operand{Mode: mode, Value: v} }

// The operands: a constant, nothing, a place in memory, behind RamStart, among the locals, on the stack.
func c(x uint32) api.Operand     { return operand(api.ModeConst4, x) }
func at(x uint32) api.Operand    { return operand(api.ModeAddr4, x) }
func ram(x uint32) api.Operand   { return operand(api.ModeRam4, x) }
func local(x uint32) api.Operand { return operand(api.ModeLocal4, x) }

var (
	none = operand(api.ModeZero, 0)
	sp   = operand(api.ModeStack, 0)
)

// row is an instruction by its name, with its operands.
type row []any

// in: an instruction's row.
func in(name string, l ...api.Operand) row {
	r := row{name}
	for _, o := range l {
		r = append(r, o)
	}
	return r
}

// asm: rows laid one behind the other.
func asm(t testing.TB, rows ...row) []byte {
	t.Helper()
	var b []byte
	for _, r := range rows {
		b = append(b, lay(t, r)...)
	}
	return b
}

// lay: one instruction, laid.
func lay(t testing.TB, r row) []byte {
	t.Helper()
	op, ok := code.Op(r[0].(string))
	if !ok {
		t.Fatal(r)
	}
	i := api.Instr{Op: op}
	for _, o := range r[1:] {
		i.Args = append(i.Args, o.(api.Operand))
	}
	b, e := code.Encode(i)
	if e != api.OK {
		t.Fatal(r, e)
	}
	return b
}

// fun: a function: its kind, its format without the last 0 0, its instructions.
func fun(t testing.TB, kind byte, format []byte, rows ...row) []byte {
	t.Helper()
	return slices.Concat([]byte{kind}, format, []byte{0, 0}, asm(t, rows...))
}

// locals: the format of n locals of four bytes.
func locals(n byte) []byte {
	if n == 0 {
		return nil
	}
	return []byte{4, n}
}

// laid is bytes, and where they lie.
type laid map[uint32][]byte

// gameBytes: the game that has these bytes, with that stack.
func gameBytes(t testing.TB, stack uint32, l laid) []byte {
	t.Helper()
	b := make([]byte, extAt)
	for a, x := range l {
		if int(a)+len(x) > len(b) {
			t.Fatal(a, len(x))
		}
		copy(b[a:], x)
	}
	g, e := header.Make(api.Header{Version: 0x30103, RamStart: ramAt, ExtStart: extAt, EndMem: memEnd, StackSize: stack, Start: start}, b[header36:])
	if e != api.OK {
		t.Fatal(e)
	}
	return g
}

const header36 = api.HeaderSize

// world: a world with a screen, and what comes from outside.
func world(t testing.TB, inputs ...api.Input) *glk.World {
	t.Helper()
	w, e := glk.New(80, 24, inputs...)
	if e != api.OK {
		t.Fatal(e)
	}
	return w
}

// line: a line from outside.
func line(s string) api.Input {
	return api.Input{Line: true, Text: runes(s)}
}

// runes: a text's characters.
func runes(s string) []uint32 {
	var l []uint32
	for _, r := range s {
		l = append(l, uint32(r))
	}
	return l
}

// begun: a machine that begins with that game.
func begun(t testing.TB, g []byte, w *glk.World) *Machine {
	t.Helper()
	m, e := New(g, w)
	if e != api.OK || m == nil {
		t.Fatal(m, e)
	}
	return m
}

// machine: a machine whose Start has four locals and does these rows; other bytes besides.
func machine(t testing.TB, l laid, rows ...row) *Machine {
	t.Helper()
	return machineIn(t, world(t), l, rows...)
}

// machineIn: the same, in a world.
func machineIn(t testing.TB, w *glk.World, l laid, rows ...row) *Machine {
	t.Helper()
	all := laid{start: fun(t, api.FuncLocals, locals(4), rows...)}
	for a, b := range l {
		all[a] = b
	}
	return begun(t, gameBytes(t, 1024, all), w)
}

// window: the rows that open a window for texts and make its stream the current one.
func window() []row {
	return []row{
		in("copy", c(7), sp), in("copy", c(api.WinText), sp), in("copy", c(0), sp), in("copy", c(0), sp), in("copy", c(0), sp),
		in("glk", c(api.GlkWinOpen), c(5), none),
		in("copy", c(1), sp), in("glk", c(api.GlkWinSet), c(1), none),
	}
}

// openWindow: the world has the same, without a machine.
func openWindow(t testing.TB, w *glk.World) {
	t.Helper()
	m := machineIn(t, w, nil, window()...)
	steps(t, m, len(window()))
}

// told: a machine's world, with a window; what is told in it.
func told(w *glk.World) string {
	var s strings.Builder
	for _, said := range w.Out() {
		for _, c := range said.Text {
			s.WriteRune(rune(c))
		}
	}
	return s.String()
}

// keeper: a function that keeps the characters that it is called with.
func keeper(t testing.TB) []byte {
	return fun(t, api.FuncLocals, locals(1),
		in("aload", c(keptAt), c(0), sp),
		in("add", sp, c(1), sp),
		in("stkcopy", c(1)),
		in("astore", c(keptAt), c(0), sp),
		in("astore", c(keptAt), sp, local(0)),
		in("return", c(99)),
	)
}

// kept: what the keeper kept.
func kept(t testing.TB, m *Machine) string {
	t.Helper()
	var s strings.Builder
	for i := range word4(t, m, keptAt) {
		s.WriteRune(rune(word4(t, m, keptAt+4+4*i)))
	}
	return s.String()
}

// word4: the number of four bytes at an address.
func word4(t testing.TB, m *Machine, addr uint32) uint32 {
	t.Helper()
	x, e := m.Memory().Read(addr, 4)
	if e != api.OK {
		t.Fatal(addr, e)
	}
	return x
}

// set4: a number of four bytes at an address. It is the test that writes into the machine's own memory.
func set4(t testing.TB, m *Machine, addr, x uint32) {
	t.Helper()
	if e := m.Memory().Write(addr, 4, x); e != api.OK {
		t.Fatal(addr, e)
	}
}

// steps: so many instructions, each OK.
func steps(t testing.TB, m *Machine, n int) {
	t.Helper()
	for i := range n {
		if e := m.Step(); e != api.OK {
			t.Fatalf("step %d of %d at %x: %d", i, n, m.PC(), e)
		}
	}
}

// fails: the next instruction has that error, and so has the one that does not come any more.
func fails(t testing.TB, m *Machine, want api.Errno) {
	t.Helper()
	if e := m.Step(); e != want {
		t.Errorf("%d; want %d", e, want)
	}
	before := m.Memory().Bytes()
	if e := m.Step(); e != want {
		t.Errorf("once more: %d; want %d", e, want)
	}
	if n, e := m.Run(5); n != 0 || e != want {
		t.Errorf("run: %d, %d; want %d", n, e, want)
	}
	if !slices.Equal(before, m.Memory().Bytes()) {
		t.Error("memory changes behind the error")
	}
}

// ends: the machine is over behind the next instruction, which is OK.
func ends(t testing.TB, m *Machine) {
	t.Helper()
	if e := m.Step(); e != api.OK {
		t.Errorf("the last step: %d", e)
	}
	if e := m.Step(); e != api.ErrOver {
		t.Errorf("behind the end: %d", e)
	}
}

// values: the current frame's values, the top one first.
func values(t testing.TB, m *Machine) []uint32 {
	t.Helper()
	var l []uint32
	for i := range m.Stack().Count() {
		x, e := m.Stack().Peek(uint32(i))
		if e != api.OK {
			t.Fatal(e)
		}
		l = append(l, x)
	}
	return l
}

// hasValues: the current frame has just these values, the top one first.
func hasValues(t testing.TB, m *Machine, want ...uint32) {
	t.Helper()
	if l := values(t, m); !slices.Equal(l, want) {
		t.Errorf("values %x; want %x", l, want)
	}
}

// hasLocal: a local's number.
func hasLocal(t testing.TB, m *Machine, at, want uint32) {
	t.Helper()
	if x, e := m.Stack().Local(at, 4); x != want || e != api.OK {
		t.Errorf("local %d: %x, %d; want %x", at, x, e, want)
	}
}

// hasWord: a number in memory.
func hasWord(t testing.TB, m *Machine, addr, want uint32) {
	t.Helper()
	if x := word4(t, m, addr); x != want {
		t.Errorf("at %x: %x; want %x", addr, x, want)
	}
}

// hasPC: where the next instruction lies.
func hasPC(t testing.TB, m *Machine, want uint32) {
	t.Helper()
	if pc := m.PC(); pc != want {
		t.Errorf("PC %x; want %x", pc, want)
	}
}

// first: where the first instruction of a machine's Start lies.
const first = start + 5

// edges: the words that are tried everywhere.
func edges() []uint32 {
	return []uint32{0, 1, big - 1, big, top}
}
