package exec

import (
	"slices"
	"testing"

	"grotto/api"
	"grotto/iff"
	"grotto/snap"
)

// namedAt: where the name of a file lies.
const namedAt = 0x7f0

// fileName: a file's name, where it lies.
func fileName() laid { return laid{namedAt: []byte("ab\x00")} }

// ask: a call of a machine's world, outside of its steps.
func ask(t *testing.T, m *Machine, sel uint32, args ...uint32) uint32 {
	t.Helper()
	x, e := m.world.Call(space{m.mem, m.stk}, sel, args...)
	if e != api.OK {
		t.Fatal(sel, args, e)
	}
	return x
}

// openFile: a stream on a file of the machine's world.
func openFile(t *testing.T, m *Machine, mode uint32) uint32 {
	t.Helper()
	ref := ask(t, m, api.GlkRefName, 0, namedAt, 0)
	return ask(t, m, api.GlkStrFile, ref, mode, 0)
}

// rewind: a stream goes on at its beginning.
func rewind(t *testing.T, m *Machine, stream uint32) {
	t.Helper()
	ask(t, m, api.GlkStrSeek, stream, 0, api.FromStart)
}

// wholeState is what undoing brings back.
type wholeState struct {
	mem, stk []byte
	frame    uint32
	heap     uint32
	blocks   []api.Block
}

// stateOf: a machine's memory, heap and stack.
func stateOf(m *Machine) wholeState {
	frame, _ := m.Stack().Frame()
	heap, blocks := m.Memory().Heap()
	return wholeState{m.Memory().Bytes(), m.Stack().Bytes(), frame, heap, blocks}
}

// sameState: both are alike.
func sameState(t *testing.T, got, want wholeState) {
	t.Helper()
	if !slices.Equal(got.mem, want.mem) || !slices.Equal(got.stk, want.stk) || got.frame != want.frame || got.heap != want.heap || !slices.Equal(got.blocks, want.blocks) {
		t.Errorf("another state: %d and %d bytes of memory, %d and %d of stack, heap %x and %x", len(got.mem), len(want.mem), len(got.stk), len(want.stk), got.heap, want.heap)
	}
}

// others: rows that change the table, the mode, the rock, the chance, a hastened function, and what is told.
func others() []row {
	return []row{in("setstringtbl", c(0x123)), in("setiosys", c(2), c(0x456)), in("setrandom", c(77)), in("accelfunc", c(1), c(fAt)), in("accelparam", c(2), c(9)), in("streamchar", c('!'))}
}

// hasOthers: they are as others has made them.
func hasOthers(t *testing.T, m *Machine) {
	t.Helper()
	if table, mode, rock := m.Output(); table != 0x123 || mode != 2 || rock != 0x456 {
		t.Error(table, mode, rock)
	}
	if m.chance != 77 {
		t.Error(m.chance)
	}
	if m.fast.At(fAt) != 1 || m.fast.Params()[2] != 9 {
		t.Error(m.fast.At(fAt), m.fast.Params())
	}
	if s := told(m.world); s != "!" {
		t.Errorf("%q", s)
	}
}

func TestRestart(t *testing.T) {
	w := world(t)
	openWindow(t, w)
	l := others()
	rows := append(l, in("saveundo", none), in("copy", c(5), sp), in("copy", c(6), at(0x900)), in("copy", c(7), local(4)), in("setmemsize", c(memEnd+0x100), none), in("malloc", c(5), none), in("callf", c(gAt), sp))
	m := machineIn(t, w, laid{gAt: fun(t, api.FuncLocals, nil, in("copy", c(8), sp), in("restart"))}, rows...)
	at := stateOf(m)
	steps(t, m, len(rows)+1)
	if m.Memory().Size() == memEnd || m.Undos() != 1 {
		t.Error(m.Memory().Size(), m.Undos())
	}
	steps(t, m, 1)
	sameState(t, stateOf(m), at)
	hasPC(t, m, first)
	if table, mode, rock := m.Output(); table != 0 || mode != 0 || rock != 0 {
		t.Error(table, mode, rock)
	}
	// The chance, what is hastened, what was told, and states to undo stay.
	if m.chance != 77 || m.fast.At(fAt) != 1 || m.fast.Params()[2] != 9 || told(w) != "!" || m.Undos() != 1 {
		t.Error(m.chance, m.fast.At(fAt), told(w), m.Undos())
	}
	// It goes on from there.
	steps(t, m, len(rows)+2)
	sameState(t, stateOf(m), at)
	if m.Undos() != 2 || told(w) != "!!" {
		t.Error(m.Undos(), told(w))
	}
}

func TestRestartKeepsWhatIsProtected(t *testing.T) {
	for _, x := range []struct{ addr, n uint32 }{{0x900, 2}, {0x900, 0}, {0x8ff, 100}, {0, top}, {0x902, 1}, {top, 5}, {0x901, 2}, {memEnd - 1, 10}, {big, big}} {
		m := machine(t, nil, in("protect", c(1), c(top)), in("protect", c(x.addr), c(x.n)), in("copy", c(0x01020304), at(0x900)), in("copyb", c(9), at(memEnd-1)), in("restart"))
		steps(t, m, 5)
		for a, b := range map[uint32]uint32{0x900: 1, 0x901: 2, 0x902: 3, 0x903: 4, memEnd - 1: 9} {
			kept := a >= x.addr && uint64(a) < uint64(x.addr)+uint64(x.n)
			if got, _ := m.Memory().Read(a, 1); got != map[bool]uint32{true: b, false: 0}[kept] {
				t.Error(x, a, got)
			}
		}
	}
	// The Start that a game has written anew stays so, if it is protected: it may be no function any more.
	m := machine(t, nil, in("protect", c(0x900), c(4)), in("nop"), in("restart"))
	steps(t, m, 3)
	hasPC(t, m, first)
}

func TestRestartThatFails(t *testing.T) {
	// A Start in what may be written is there anew, as far as it isn't protected.
	l := laid{0x900: fun(t, api.FuncLocals, nil, in("protect", c(0x900), c(1)), in("astoreb", c(0x900), none, c(5)), in("restart"))}
	m := begun(t, startOf(t, 0x900, 256, l), world(t))
	steps(t, m, 2)
	fails(t, m, api.FatalFunc)
	if m.Stack().Top() != 0 {
		t.Error(m.Stack().Top())
	}
	l[0x900] = fun(t, api.FuncLocals, nil, in("nop"), in("astoreb", c(0x900), none, c(5)), in("restart"))
	m = begun(t, startOf(t, 0x900, 256, l), world(t))
	steps(t, m, 3)
	hasPC(t, m, 0x903)
}

func TestSaveAndRestore(t *testing.T) {
	for _, o := range []api.Operand{none, at(0x900), ram(0x100), local(8), sp} {
		ahead := []row{in("copy", c(5), sp), in("copy", c(6), local(4)), in("malloc", c(20), local(0)), in("copy", c(77), at(0x910))}
		between := []row{in("copy", c(8), sp), in("copy", c(9), local(4)), in("astore", local(0), none, c(1)), in("mfree", local(0)), in("copy", c(78), at(0x910)), in("setmemsize", c(memEnd+0x100), none), in("callf", c(gAt), none)}
		w := world(t)
		openWindow(t, w)
		l := fileName()
		l[gAt] = fun(t, api.FuncLocals, locals(2), append(others(), in("restore", c(4), none))...)
		m := machineIn(t, w, l, append(append(slices.Clone(ahead), in("save", c(4), o)), between...)...)
		if id := openFile(t, m, api.StreamBoth); id != 4 {
			t.Fatal(id)
		}
		steps(t, m, len(ahead))
		// A state of what is there, with the stub on top.
		want := stateOf(m)
		pc := first + uint32(len(asm(t, append(slices.Clone(ahead), in("save", c(4), o))...)))
		steps(t, m, 1)
		hasPC(t, m, pc)
		hasAnswer(t, m, o, 0, 5)
		steps(t, m, len(between)+len(others()))
		rewind(t, m, 4)
		steps(t, m, 1)
		hasPC(t, m, pc)
		hasAnswer(t, m, o, top, 5)
		hasOthers(t, m)
		// But for the answer it is as it was.
		got := stateOf(m)
		switch o.Mode {
		case api.ModeAddr4, api.ModeRam4:
			copy(got.mem[0x900:0x904], want.mem[0x900:])
		case api.ModeLocal4:
			copy(got.stk[12+8:12+12], []byte{0, 0, 0, 0})
		case api.ModeStack:
			got.stk = got.stk[:len(got.stk)-4]
		}
		sameState(t, got, want)
	}
}

// hasAnswer: in its place an answer is; on the stack above what was there.
func hasAnswer(t *testing.T, m *Machine, o api.Operand, x uint32, below ...uint32) {
	t.Helper()
	switch o.Mode {
	case api.ModeLocal4:
		hasLocal(t, m, o.Value, x)
	case api.ModeAddr4:
		hasWord(t, m, o.Value, x)
	case api.ModeRam4:
		hasWord(t, m, ramAt+o.Value, x)
	case api.ModeStack:
		below = append([]uint32{x}, below...)
	}
	hasValues(t, m, below...)
}

func TestWhatIsSaved(t *testing.T) {
	m := machine(t, fileName(), in("copy", c(5), sp), in("copy", c(7), at(0x900)), in("save", c(2), local(4)), in("nop"))
	id := openFile(t, m, api.StreamWrite)
	if id != 2 {
		t.Fatal(id)
	}
	steps(t, m, 3)
	b, ok := m.world.File("ab")
	if !ok {
		t.Fatal("no file")
	}
	st, e := snap.Get(m.Memory(), b)
	if e != api.OK {
		t.Fatal(e)
	}
	stk := m.Stack().Copy()
	stk.Stub(2, 4, m.PC())
	if !slices.Equal(st.Stack, stk.Bytes()) || !slices.Equal(st.Ram, m.Memory().Bytes()[ramAt:]) {
		t.Error("it is another state")
	}
}

func TestSaveThatIsRefused(t *testing.T) {
	// No stream, a window's, one that reads only; a full shelf.
	w := world(t)
	openWindow(t, w)
	w.SetFile("ab", []byte{1, 2, 3})
	m := machineIn(t, w, fileName(), in("save", none, sp), in("save", c(1), sp), in("save", c(2), sp), in("save", c(99), sp), in("save", c(top), sp), in("save", c(big), sp), in("save", c(4), sp), in("nop"))
	openFile(t, m, api.StreamRead)
	steps(t, m, 7)
	hasValues(t, m, 1, 1, 1, 1, 1, 1, 1)
	if b, _ := w.File("ab"); !slices.Equal(b, []byte{1, 2, 3}) {
		t.Error(b)
	}
	w = world(t)
	w.SetFile("z", make([]byte, api.MaxShelf-10))
	m = machineIn(t, w, fileName(), in("save", c(2), sp), in("nop"))
	openFile(t, m, api.StreamWrite)
	steps(t, m, 1)
	hasValues(t, m, 1)
	if b, ok := w.File("ab"); len(b) != 0 || !ok {
		t.Error(b, ok)
	}
}

func TestSaveWithoutRoom(t *testing.T) {
	// The stub needs sixteen bytes.
	for _, name := range []string{"save", "saveundo", "callf", "catch"} {
		for _, n := range []byte{57, 58, 61} {
			r := in(name, none)
			switch name {
			case "save":
				r = in(name, c(2), none)
			case "callf":
				r = in(name, c(fAt), none)
			case "catch":
				r = in(name, none, c(2))
			}
			l := fileName()
			l[start] = fun(t, api.FuncLocals, []byte{4, n}, r, in("nop"))
			l[fAt] = fun(t, api.FuncLocals, nil, in("nop"))
			m := begun(t, gameBytes(t, 256, l), world(t))
			openFile(t, m, api.StreamWrite)
			if n == 57 && name != "callf" {
				steps(t, m, 1)
				continue
			}
			fails(t, m, api.FatalOver)
			if b, _ := m.world.File("ab"); len(b) != 0 {
				t.Error(len(b))
			}
			if m.Undos() != 0 {
				t.Error(m.Undos())
			}
		}
	}
}

// refusesRestore: what lies in the file is no state: the answer is 1, and nothing else has changed.
func refusesRestore(t *testing.T, b []byte, what string) {
	t.Helper()
	w := world(t)
	if e := w.SetFile("ab", b); e != api.OK {
		t.Fatal(e)
	}
	m := machineIn(t, w, fileName(), in("copy", c(5), sp), in("malloc", c(5), none), in("copy", c(6), at(0x900)), in("restore", c(2), sp), in("copy", c(7), sp))
	if id := openFile(t, m, api.StreamRead); id != 2 {
		t.Fatal(id)
	}
	steps(t, m, 3)
	want := stateOf(m)
	steps(t, m, 1)
	hasValues(t, m, 1, 5)
	got := stateOf(m)
	got.stk = got.stk[:len(got.stk)-4]
	sameState(t, got, want)
	if t.Failed() {
		t.Fatal(what)
	}
	steps(t, m, 1)
	hasValues(t, m, 7, 1, 5)
}

// chunks: of a saved state, as they may be changed.
func chunks(t *testing.T, b []byte) []api.Chunk {
	t.Helper()
	_, l, e, _ := iff.Parse(b)
	if e != api.OK {
		t.Fatal(e)
	}
	return l
}

func TestRestoreThatIsRefused(t *testing.T) {
	// A state that the same game saved.
	m := machine(t, fileName(), in("copy", c(5), sp), in("malloc", c(5), none), in("copy", c(6), at(0x900)), in("restore", c(2), sp), in("copy", c(7), sp))
	steps(t, m, 2)
	m.stk.Stub(3, 0, 0x222)
	good, e := snap.Put(m.mem, m.stk)
	if e != api.OK {
		t.Fatal(e)
	}
	refusesRestore(t, nil, "nothing")
	refusesRestore(t, []byte{1, 2, 3}, "no form")
	refusesRestore(t, []byte("ab"), "no form")
	for n := range len(good) {
		if n%7 == 0 || n > len(good)-5 {
			refusesRestore(t, good[:n], "a beginning")
		}
	}
	refusesRestore(t, append(slices.Clone(good), 1, 2), "more than a form")
	// Stacks and heaps that may not be so are refused by Load.
	l := chunks(t, good)
	for i := range l {
		bad := slices.Clone(l)
		bad[i].Data = slices.Clone(l[i].Data)
		bad[i].Data[len(bad[i].Data)-1] ^= 4
		b, e := iff.Build("IFZS", bad...)
		if e != api.OK {
			t.Fatal(e)
		}
		if l[i].Id == "IFhd" || l[i].Id == "Stks" {
			refusesRestore(t, b, l[i].Id)
		}
	}
	// A heap whose block lies behind the end, and one that is cut short.
	for _, heap := range [][]byte{{0, 0, 16, 0, 0, 0, 0, 1, 0, 0, 32, 0, 0, 0, 0, 4}, {0, 0, 16, 0, 0, 0, 0, 1, 0, 0, 16, 0, 0, 0, 0}, {0, 0}} {
		i, ok := iff.Find("MAll", l...)
		if !ok {
			t.Fatal("no heap")
		}
		bad := slices.Clone(l)
		bad[i].Data = heap
		b, _ := iff.Build("IFZS", bad...)
		refusesRestore(t, b, "MAll")
	}
	// Another game's state.
	other := machine(t, nil, in("nop"))
	other.stk.Stub(3, 0, 0x222)
	b, _ := snap.Put(other.mem, other.stk)
	refusesRestore(t, b, "of another game")
}

func TestRestoreFromNoStream(t *testing.T) {
	w := world(t)
	openWindow(t, w)
	m := machineIn(t, w, fileName(), in("restore", none, sp), in("restore", c(1), sp), in("restore", c(2), sp), in("restore", c(3), sp), in("restore", c(top), sp), in("restore", c(4), sp), in("restore", c(9), at(0)))
	openFile(t, m, api.StreamWrite)
	steps(t, m, 6)
	hasValues(t, m, 1, 1, 1, 1, 1, 1)
	fails(t, m, api.FatalWrite)
}

func TestRestoreWithWhatIsProtected(t *testing.T) {
	for _, undo := range []bool{false, true} {
		save, restore := in("save", c(2), local(0)), in("restore", c(2), local(0))
		if undo {
			save, restore = in("saveundo", local(0)), in("restoreundo", local(0))
		}
		m := machine(t, fileName(), in("copy", c(0x01020304), at(0x900)), save, in("copy", c(0x0a0b0c0d), at(0x900)), in("protect", c(0x901), c(2)), restore, in("nop"))
		openFile(t, m, api.StreamBoth)
		steps(t, m, 4)
		rewind(t, m, 2)
		steps(t, m, 1)
		hasLocal(t, m, 0, top)
		hasWord(t, m, 0x900, 0x010b0c04)
		// It was not protected when it was saved, and goes on to be.
		steps(t, m, 1)
		hasWord(t, m, 0x900, 0x0a0b0c0d)
	}
}

func TestRestoreIntoAnotherMachine(t *testing.T) {
	rows := []row{in("jnz", at(0x904), c(2+19)), in("copy", c(5), at(0x900)), in("save", c(2), at(0x908)), in("quit"), in("restore", c(2), at(0x908)), in("nop")}
	if n := len(asm(t, rows[1:4]...)); n != 19+6 {
		rows[0] = in("jnz", at(0x904), c(2+uint32(n)))
	}
	w := world(t)
	m := machineIn(t, w, fileName(), rows...)
	openFile(t, m, api.StreamWrite)
	steps(t, m, 4)
	b, _ := w.File("ab")
	other := world(t)
	other.SetFile("ab", b)
	m = machineIn(t, other, fileName(), rows...)
	openFile(t, m, api.StreamRead)
	set4(t, m, 0x904, 1)
	steps(t, m, 2)
	hasWord(t, m, 0x900, 5)
	hasWord(t, m, 0x904, 0)
	hasWord(t, m, 0x908, top)
	ends(t, m)
}

func TestUndo(t *testing.T) {
	// As many states as KeptUndo, and three more: each has a number at 0x900 of its own.
	const n = api.KeptUndo + 3
	var rows []row
	for i := range uint32(n) {
		rows = append(rows, in("copy", c(100+i), at(0x900)), in("saveundo", at(0x904)))
	}
	rows = append(rows, in("copy", c(5), at(0x900)), in("callf", c(gAt), none))
	m := machine(t, laid{gAt: fun(t, api.FuncLocals, nil, in("hasundo", sp), in("restoreundo", sp))}, rows...)
	for i := range n {
		steps(t, m, 2)
		hasWord(t, m, 0x904, 0)
		if want := min(i+1, api.KeptUndo); m.Undos() != want {
			t.Error(m.Undos(), want)
		}
	}
	for i := range api.KeptUndo {
		last := uint32(n - 1 - i)
		m.pc = gAt + 3
		steps(t, m, 1)
		if x, _ := m.Stack().Peek(0); x != 0 {
			t.Error("there is none")
		}
		steps(t, m, 1)
		hasWord(t, m, 0x900, 100+last)
		hasWord(t, m, 0x904, top)
		hasValues(t, m)
		hasPC(t, m, first+uint32(len(asm(t, rows[:2*last+2]...))))
		if m.Undos() != api.KeptUndo-1-i {
			t.Error(m.Undos())
		}
	}
	// No more of them.
	m.pc = gAt + 3
	steps(t, m, 2)
	hasValues(t, m, 1, 1)
	hasWord(t, m, 0x900, 100+3)
}

func TestUndoToEachPlace(t *testing.T) {
	for _, o := range []api.Operand{none, at(0x900), ram(0x100), local(8), sp} {
		w := world(t)
		openWindow(t, w)
		rows := []row{in("copy", c(5), sp), in("malloc", c(9), none), in("saveundo", o)}
		rows = append(rows, others()...)
		rows = append(rows, in("copy", c(6), sp), in("setmemsize", c(memEnd+0x100), none), in("mfree", c(memEnd)), in("callf", c(gAt), none))
		m := machineIn(t, w, laid{gAt: fun(t, api.FuncLocals, locals(3), in("malloc", c(300), none), in("restoreundo", none))}, rows...)
		steps(t, m, 2)
		want := stateOf(m)
		steps(t, m, 1)
		pc := m.PC()
		hasPC(t, m, first+uint32(len(asm(t, rows[:3]...))))
		hasAnswer(t, m, o, 0, 5)
		steps(t, m, len(rows)-3+2)
		hasPC(t, m, pc)
		hasAnswer(t, m, o, top, 5)
		hasOthers(t, m)
		if m.Undos() != 0 {
			t.Error(m.Undos())
		}
		got := stateOf(m)
		switch o.Mode {
		case api.ModeAddr4, api.ModeRam4:
			copy(got.mem[0x900:0x904], want.mem[0x900:])
		case api.ModeLocal4:
			copy(got.stk[12+8:12+12], []byte{0, 0, 0, 0})
		case api.ModeStack:
			got.stk = got.stk[:len(got.stk)-4]
		}
		sameState(t, got, want)
	}
	// An answer that can't be stored: the state is one to undo.
	m := machine(t, nil, in("saveundo", at(0)))
	fails(t, m, api.FatalWrite)
	if m.Undos() != 1 {
		t.Error(m.Undos())
	}
}

func TestNothingToUndo(t *testing.T) {
	for _, o := range []api.Operand{none, at(0x900), ram(0x100), local(8), sp} {
		m := machine(t, nil, in("copy", c(5), sp), in("discardundo"), in("restoreundo", o), in("nop"))
		steps(t, m, 3)
		hasAnswer(t, m, o, 1, 5)
		steps(t, m, 1)
	}
	fails(t, machine(t, nil, in("restoreundo", at(0))), api.FatalWrite)
}

func TestHasundoAndDiscardundo(t *testing.T) {
	m := machine(t, nil, in("hasundo", sp), in("saveundo", none), in("hasundo", sp), in("copy", c(5), at(0x900)), in("saveundo", none), in("discardundo"), in("hasundo", sp), in("discardundo"), in("hasundo", sp), in("discardundo"), in("hasundo", sp))
	for i, want := range []int{0, 1, 1, 1, 2, 1, 1, 0, 0, 0, 0} {
		steps(t, m, 1)
		if m.Undos() != want {
			t.Error(i, m.Undos())
		}
	}
	hasValues(t, m, 1, 1, 0, 0, 1)
	// The last one is gone, not the first.
	m = machine(t, nil, in("copy", c(1), at(0x900)), in("saveundo", none), in("copy", c(2), at(0x900)), in("saveundo", none), in("copy", c(3), at(0x900)), in("discardundo"), in("restoreundo", none))
	steps(t, m, 7)
	hasWord(t, m, 0x900, 1)
}

func TestUndoThatCanNotBeLoaded(t *testing.T) {
	m := machine(t, nil, in("copy", c(5), sp), in("restoreundo", sp), in("restoreundo", sp))
	m.undo.Push(api.State{})
	st, _ := snap.Take(m.mem, m.stk) // without a stub on top
	m.undo.Push(st)
	steps(t, m, 1)
	want := stateOf(m)
	steps(t, m, 1)
	hasValues(t, m, 1, 5)
	if m.Undos() != 1 {
		t.Error(m.Undos())
	}
	steps(t, m, 1)
	hasValues(t, m, 1, 1, 5)
	got := stateOf(m)
	got.stk = got.stk[:len(got.stk)-8]
	sameState(t, got, want)
}

func TestUndoBehindARestart(t *testing.T) {
	// What was there ahead of a restart is there again, and the mode, which the restart made 0, stays so.
	m := machine(t, nil, in("jnz", at(0x900), c(2)), in("setiosys", c(2), c(9)), in("copy", c(5), sp), in("copy", c(6), at(0x904)), in("saveundo", sp), in("jnz", sp, c(2)), in("protect", c(0x900), c(4)), in("copy", c(1), at(0x900)), in("restart"))
	steps(t, m, 9)
	hasPC(t, m, first)
	hasWord(t, m, 0x900, 1)
	hasWord(t, m, 0x904, 0)
	for i, b := range lay(t, in("restoreundo", none)) {
		m.Memory().Write(0xa00+uint32(i), 1, uint32(b))
	}
	m.pc = 0xa00
	steps(t, m, 1)
	hasWord(t, m, 0x904, 6)
	hasWord(t, m, 0x900, 1) // protected
	hasValues(t, m, top, 5)
	if table, mode, rock := m.Output(); table != 0 || mode != 0 || rock != 0 {
		t.Error(table, mode, rock)
	}
}

func TestGoingBackFromAStateInsideCalls(t *testing.T) {
	// Saved in a function that is called twice: what is undone goes back to the first caller's place.
	f := fun(t, api.FuncLocals, locals(1), in("saveundo", local(0)), in("return", local(0)))
	m := machine(t, laid{fAt: f}, in("callf", c(fAt), sp), in("jnz", sp, c(2+9)), in("restoreundo", none), in("nop"), in("nop"), in("nop"), in("nop"), in("nop"), in("quit"))
	n, e := m.Run(100)
	if e != api.ErrOver {
		t.Error(n, e)
	}
	hasValues(t, m)
	if m.Undos() != 0 {
		t.Error(m.Undos())
	}
}
