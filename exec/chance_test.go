package exec

import (
	"maps"
	"math/rand"
	"slices"
	"testing"

	"grotto/api"
	"grotto/code"
	"grotto/glk"
	"grotto/header"
)

// The map of the games that are drawn by chance.
const (
	drawnFuns  = 0x900 // functions, each with so much room
	drawnRoom  = 0x100
	drawnKeep  = 0x1000
	drawnName  = 0x1080
	drawnTexts = 0x1100
	drawnTable = 0x1200
	drawnRam   = 0x2000
	drawnExt   = 0x2400
	drawnEnd   = 0x2800
	drawnLoop  = drawnRam + 0x200 // it has itself as the next one
	drawnFile  = 4                // the id of the stream that keeps states
)

// roles: what each loaded operand of an instruction should be for it to come to something. What has none here may be any word.
var roles = map[string]string{
	"div": "wz", "mod": "wz", "jump": "b", "jz": "ib", "jnz": "ib", "jeq": "iib", "jne": "iib", "jlt": "wwb", "jge": "wwb", "jgt": "wwb", "jle": "wwb", "jltu": "wwb", "jgeu": "wwb", "jgtu": "wwb", "jleu": "wwb",
	"call": "fn", "catch": "b", "throw": "wk", "tailcall": "fn",
	"aload": "ai", "aloads": "ai", "aloadb": "ai", "aloadbit": "aB", "astore": "aiw", "astores": "aiw", "astoreb": "aiw", "astorebit": "aBi",
	"stkpeek": "n", "stkroll": "nw", "stkcopy": "n", "streamstr": "t", "setiosys": "or", "setstringtbl": "T", "gestalt": "gi", "setmemsize": "S", "jumpabs": "j",
	"mzero": "na", "mcopy": "naa", "malloc": "M", "mfree": "h", "protect": "an", "save": "s", "restore": "s", "setrandom": "i", "random": "i", "accelfunc": "Fe", "accelparam": "pw",
	"callf": "f", "callfi": "fw", "callfii": "fww", "callfiii": "fwww",
	"linearsearch": "wnannnO", "binarysearch": "wnannnO", "linkedsearch": "wnlnnO",
	"jfeq": "xxxb", "jfne": "xxxb", "jflt": "xxb", "jfle": "xxb", "jfgt": "xxb", "jfge": "xxb", "jisnan": "xb", "jisinf": "xb",
	"ftonumz": "x", "ftonumn": "x", "ceil": "x", "floor": "x", "fadd": "xx", "fsub": "xx", "fmul": "xx", "fdiv": "xx", "fmod": "xx", "sqrt": "x", "ftod": "x",
	"dtonumz": "dw", "dtonumn": "dw", "dtof": "dw", "dceil": "dw", "dfloor": "dw", "dsqrt": "dw", "dadd": "dwdw", "dsub": "dwdw", "dmul": "dwdw", "ddiv": "dwdw", "dmodr": "dwdw", "dmodq": "dwdw",
	"jdeq": "dwdwdwb", "jdne": "dwdwdwb", "jdlt": "dwdwb", "jdle": "dwdwb", "jdgt": "dwdwb", "jdge": "dwdwb", "jdisnan": "dwb", "jdisinf": "dwb",
}

// drawer draws games.
type drawer struct {
	*rand.Rand
	t       testing.TB
	wild    int // of so many operands one is any word
	letters map[string]string
	names   []string
}

// drawing: a drawer for that chance.
func drawing(t testing.TB, r *rand.Rand) *drawer {
	letters := named()
	return &drawer{Rand: r, t: t, letters: letters, names: slices.Sorted(maps.Keys(letters))}
}

// of: one of these.
func (d *drawer) of(l ...uint32) uint32 { return l[d.Intn(len(l))] }

// word: any word, and more often one that is special.
func (d *drawer) word() uint32 {
	switch d.Intn(3) {
	case 0:
		return d.of(0, 1, 2, big-1, big, big+1, top, top-1, 0x7f800000, 0xff800000, 0x7fc00000, 0x80000000, 0x7ff00000, 0xfff80000)
	case 1:
		return uint32(d.Intn(300) - 50)
	}
	return d.Uint32()
}

// function: where a function lies.
func (d *drawer) function() uint32 {
	return drawnFuns + drawnRoom*uint32(d.Intn(6))
}

// text: where a text lies.
func (d *drawer) text() uint32 {
	return drawnTexts + 0x20*uint32(d.Intn(8))
}

// ram: an address of what may be written.
func (d *drawer) ram() uint32 {
	return drawnRam + 0x100 + 4*uint32(d.Intn(32))
}

// valueOf: a value by its role.
func (d *drawer) valueOf(role byte) uint32 {
	if d.Intn(d.wild) == 0 {
		return d.word()
	}
	switch role {
	case 'z':
		return d.of(d.word()|1, uint32(1+d.Intn(9)), d.word())
	case 'i':
		return uint32(d.Intn(6) - 2)
	case 'B':
		return uint32(d.Intn(200) - 100)
	case 'n':
		return uint32(d.Intn(5))
	case 'a':
		return d.ram() + d.of(0, 0, 0, 1, 2)
	case 'l':
		return d.of(drawnLoop, drawnLoop, 0, 0, d.ram())
	case 'b':
		if d.Intn(4) > 0 {
			return 2
		}
		return d.of(0, 1, 2, 2, 2, 3, 20, top-30)
	case 'f', 'r':
		return d.of(d.function(), d.function(), drawnKeep)
	case 'e':
		return d.of(d.function(), drawnFuns, drawnFuns)
	case 't':
		return d.text()
	case 'T':
		return d.of(drawnTable, drawnTable, drawnTable, 0, drawnTable+4)
	case 'k':
		return d.of(28+16, 28+20, 28+24, 28+32, 28+36, 28+48)
	case 'o':
		return d.of(0, 1, 1, 2, 2, 3)
	case 'g':
		return uint32(d.Intn(16))
	case 'S':
		return drawnEnd + 0x100*uint32(d.Intn(4)-1)
	case 'j':
		return start + 5
	case 'M':
		return uint32(d.Intn(40))
	case 'h':
		return d.of(drawnEnd, drawnEnd+1, drawnEnd+0x10, drawnEnd+0x100)
	case 's':
		return d.of(drawnFile, drawnFile, drawnFile, 1, 2, 3, 0)
	case 'F':
		return uint32(d.Intn(15))
	case 'p':
		return uint32(d.Intn(10))
	case 'O':
		return uint32(d.Intn(8))
	case 'x':
		return d.of(d.word(), 0x3f800000, 0xbf800000, 0x40490fdb, 0x42280000, 0xc2280000)
	case 'd':
		return d.of(d.word(), 0x3ff00000, 0xbff00000, 0x400921fb, 0x40450000, 0xc0450000)
	}
	return d.word()
}

// constant: an operand that tells a word, in as few bytes as may be or in more.
func (d *drawer) constant(x uint32) api.Operand {
	switch {
	case x == 0 && d.Intn(2) == 0:
		return none
	case x == uint32(int32(int8(x))) && d.Intn(2) == 0:
		return operand(api.ModeConst1, x)
	case x == uint32(int32(int16(x))) && d.Intn(2) == 0:
		return operand(api.ModeConst2, x)
	}
	return c(x)
}

// loaded: an operand that tells a word, and the rows that must stand ahead of it.
func (d *drawer) loaded(x uint32) (api.Operand, []row) {
	switch d.Intn(12) {
	case 0:
		return sp, []row{in("copy", c(x), sp)}
	case 1:
		l := local(4 * uint32(d.Intn(4)))
		return l, []row{in("copy", c(x), l)}
	case 2:
		a := d.ram()
		return at(a), []row{in("copy", c(x), ram(a-drawnRam))}
	case 3:
		a := d.ram()
		return ram(a - drawnRam), []row{in("copy", c(x), at(a))}
	case 4:
		if d.Intn(d.wild) == 0 {
			return d.stored(), nil
		}
	}
	return d.constant(x), nil
}

// stored: where something is stored.
func (d *drawer) stored() api.Operand {
	if d.Intn(d.wild) == 0 {
		return []api.Operand{at(d.word()), ram(d.word()), local(d.word()), local(16), operand(api.ModeAddr1, 5)}[d.Intn(5)]
	}
	a := d.ram()
	return []api.Operand{none, at(a), ram(a - drawnRam), local(4 * uint32(d.Intn(4))), local(uint32(d.Intn(13))), sp, sp, sp}[d.Intn(8)]
}

// rowsOf: an instruction by chance, with the rows that must stand ahead of it.
func (d *drawer) rowsOf(name, letters string) []row {
	r := row{name}
	var ahead []row
	loaded := 0
	for i := range len(letters) {
		if letters[i] == 'S' {
			r = append(r, d.stored())
			continue
		}
		role := byte('w')
		if l := roles[name]; loaded < len(l) {
			role = l[loaded]
		}
		loaded++
		o, rows := d.loaded(d.valueOf(role))
		r = append(r, o)
		// What is popped first is pushed last.
		ahead = append(rows, ahead...)
	}
	if name == "save" || name == "restore" {
		ahead = append(d.seek(), ahead...)
	}
	return append(ahead, r)
}

// calling: a call of the world with these arguments.
func (d *drawer) calling(sel uint32, args ...uint32) []row {
	var l []row
	for _, x := range slices.Backward(args) {
		l = append(l, in("copy", d.constant(x), sp))
	}
	return append(l, in("glk", c(sel), d.constant(uint32(len(args))), d.stored()))
}

// seek: the stream of states goes on at its beginning.
func (d *drawer) seek() []row {
	if d.Intn(4) == 0 {
		return nil
	}
	return d.calling(api.GlkStrSeek, drawnFile, 0, 0)
}

// outside: a call of the world by chance.
func (d *drawer) outside() []row {
	a := d.ram()
	switch d.Intn(14) {
	case 0:
		return d.calling(api.GlkPut, 33+uint32(d.Intn(60)))
	case 1:
		return d.calling(api.GlkPutWide, d.word())
	case 2:
		return d.calling(api.GlkPutBuffer, drawnName, 2)
	case 3:
		return d.calling(api.GlkWinSize, 1, a, top)
	case 4:
		return append(d.calling(api.GlkLineAsk, 1, a, uint32(d.Intn(6)), 0), d.calling(api.GlkSelect, d.of(a, top, 0))...)
	case 5:
		return append(d.calling(api.GlkCharAsk, 1), d.calling(api.GlkSelect, top)...)
	case 6:
		return d.calling(d.word())
	case 7:
		return d.calling(api.GlkWinNext, d.word(), d.word())
	case 8:
		return d.calling(api.GlkGetStr, drawnFile)
	case 9:
		return d.calling(api.GlkStrMemory, a, 4, 1, 0)
	case 10:
		return d.calling(api.GlkWinOpen, 1, 0x12, 3, api.WinGrid, 5)
	case 11:
		return d.calling(api.GlkStrSet, d.of(1, 2, drawnFile, 5))
	case 12:
		if d.Intn(5) == 0 {
			return d.calling(api.GlkExit)
		}
		return d.calling(api.GlkStrCurrent)
	}
	return d.calling(api.GlkSelect, top)
}

// caught: what is thrown comes to its catch; forged: through a stub that the game has laid itself, which may lead to a text.
func (d *drawer) caught(forged bool) []row {
	throw := []row{in("copy", c(1), local(0))}
	if forged {
		kind := d.of(0, 1, 3, 4, 7, 10, 10, 11, 12, 12, 13, 13, 14, 14, 15, d.word())
		throw = append(throw,
			in("copy", sp, local(4)), in("copy", sp, local(8)), in("copy", sp, none), in("copy", sp, none),
			in("copy", c(d.of(11, 11, 11, 11, 5, 1)), sp), in("copy", none, sp), in("copy", local(8), sp), in("copy", local(4), sp),
			in("copy", c(kind), sp), in("copy", c(d.of(0, 1, 5, 8, 9, 12, 16, 200)), sp), in("copy", c(d.text()+d.of(1, 4)), sp), in("copy", local(4), sp),
			in("add", local(12), c(16), local(12)))
	}
	throw = append(throw, in("throw", c(d.word()), local(12)))
	return append([]row{in("copy", none, local(0)), in("catch", local(12), c(2)), in("jnz", local(0), c(2+uint32(len(asm(d.t, throw...)))))}, throw...)
}

// prologue: a window, a file, and how things are told.
func (d *drawer) prologue() []row {
	var l []row
	add := func(rows []row) { l = append(l, rows...) }
	add(d.calling(api.GlkWinOpen, 0, 0, 0, api.WinText, 7))
	add(d.calling(api.GlkWinSet, 1))
	add(d.calling(api.GlkRefName, 0, drawnName, 1))
	add(d.calling(api.GlkStrFile, 3, 3, 1))
	return append(l, in("setiosys", c(uint32(d.Intn(3))), c(d.valueOf('r'))), in("setstringtbl", c(drawnTable)))
}

// body: instructions by chance, so many bytes at the most, with a return behind them.
func (d *drawer) body(most int, ahead []row) []byte {
	b := asm(d.t, ahead...)
	for {
		name := d.names[d.Intn(len(d.names))]
		ends := name == "quit" || name == "return" || name == "tailcall" || name == "jump" || name == "restart" || name == "throw" || name == "restore" || name == "restoreundo" || name == "jumpabs"
		if ends && d.Intn(4) > 0 {
			continue
		}
		rows := d.rowsOf(name, d.letters[name])
		switch {
		case name == "glk":
			rows = d.outside()
		case name == "throw" && d.Intn(8) > 0:
			rows = d.caught(d.Intn(2) == 0)
		case name == "mfree" && d.Intn(4) > 0:
			rows = []row{in("malloc", c(1+uint32(d.Intn(40))), local(8)), in("mfree", local(8))}
		}
		if name == "call" || name == "tailcall" || d.Intn(3) == 0 {
			rows = append([]row{in("copy", c(d.word()), sp), in("copy", c(d.word()), sp), in("copy", c(3), sp)}, rows...)
		}
		x := asm(d.t, rows...)
		if len(b)+len(x)+3 > most {
			return append(b, asm(d.t, in("return", operand(api.ModeConst1, uint32(d.Intn(100)))))...)
		}
		b = append(b, x...)
	}
}

// texts: eight texts of all kinds.
func (d *drawer) texts() []byte {
	b := make([]byte, 8*0x20)
	for i := range 8 {
		x := b[0x20*i : 0x20*i+0x20]
		switch i % 3 {
		case 0:
			copy(x, []byte{api.TextBytes, 'a' + byte(i), 'b', 'c'})
		case 1:
			copy(x, []byte{api.TextWords, 9, 9, 9, 0, 0, 0, 'w', 0, 1, 0, byte(i)})
		case 2:
			x[0] = api.TextPacked
			d.Read(x[1:])
		}
		if d.Intn(30) == 0 {
			x[0] = byte(d.Intn(256))
		}
	}
	return b
}

// table: sixteen leaves at the ends of a tree, as it chances.
func (d *drawer) table() []byte {
	b := make([]byte, 12)
	word := func(x uint32) []byte { return []byte{byte(x >> 24), byte(x >> 16), byte(x >> 8), byte(x)} }
	var nodes []uint32
	for range 16 {
		nodes = append(nodes, drawnTable+uint32(len(b)))
		to := d.of(d.text(), d.text(), d.function(), d.function(), drawnKeep, d.word())
		switch d.Intn(14) {
		case 0, 1, 2:
			b = append(b, 1)
		case 3, 4:
			b = append(b, 2, byte(d.Intn(256)))
		case 5:
			b = append(b, 3, 'x', 'y', 'z', 0)
		case 6:
			b = append(append(b, 4), word(d.word())...)
		case 7:
			b = append(b, 5, 0, 0, 1, 1, 0, 0, 0, 2, 0, 0, 0, 0)
		case 8:
			b = append(append(b, 8), word(to)...)
		case 9:
			b = append(append(b, 9), word(drawnTexts-4*d.of(1, 2, 3))...)
		case 10:
			b = append(append(append(b, 10), word(to)...), 0, 0, 0, 2, 1, 2, 3, 4, 5, 6, 7, 8)
		case 11:
			b = append(append(append(b, 11), word(drawnTexts-4*d.of(1, 2, 3))...), 0, 0, 0, 1, 1, 2, 3, 4)
		case 12:
			b = append(append(b, 8), word(d.text())...)
		case 13:
			b = append(b, 3, 0)
		}
	}
	for len(nodes) > 1 {
		var above []uint32
		for i := 0; i < len(nodes); i += 2 {
			above = append(above, drawnTable+uint32(len(b)))
			b = append(append(append(b, 0), word(nodes[i])...), word(nodes[i+1])...)
		}
		nodes = above
	}
	copy(b[8:], word(nodes[0]))
	return b
}

// game: a game by chance.
func (d *drawer) game() []byte {
	b := make([]byte, drawnExt)
	put := func(a int, x []byte) { copy(b[a:], x) }
	put(start, append([]byte{api.FuncLocals, 4, 4, 0, 0}, d.body(drawnFuns-start-5, d.prologue())...))
	for i := range 6 {
		head := []byte{api.FuncStack + byte(i%2), 4, 4, 0, 0}
		if i == 4 {
			head = []byte{api.FuncLocals, 1, 2, 2, 1, 4, 3, 0, 0}
		}
		put(drawnFuns+i*drawnRoom, append(head, d.body(60+d.Intn(drawnRoom-70), nil)...))
	}
	put(drawnKeep, fun(d.t, api.FuncLocals, locals(1), in("aload", c(drawnRam), c(0), sp), in("add", sp, c(1), sp), in("stkcopy", c(1)), in("astore", c(drawnRam), c(0), sp), in("bitand", sp, c(15), sp), in("astore", c(drawnRam), sp, local(0)), in("return", c(1))))
	put(drawnName, []byte("ab\x00"))
	for i := range 3 {
		x := d.of(d.text(), d.function())
		put(drawnTexts-4-4*i, []byte{byte(x >> 24), byte(x >> 16), byte(x >> 8), byte(x)})
	}
	put(drawnTexts, d.texts())
	put(drawnTable, d.table())
	d.Read(b[drawnRam+0x80 : drawnRam+0x200])
	for i := range 3 {
		put(drawnLoop+4*i, []byte{0, 0, drawnLoop >> 8, drawnLoop & 0xff})
	}
	g, e := header.Make(api.Header{Version: 0x30103, RamStart: drawnRam, ExtStart: drawnExt, EndMem: drawnEnd, StackSize: d.of(256, 512, 1024, 1024, 1024), Start: start, Table: d.of(0, drawnTable)}, b[header36:])
	if e != api.OK {
		d.t.Fatal(e)
	}
	return g
}

// inputs: what comes from outside.
func inputs() []api.Input {
	return []api.Input{line("go"), {Text: runes("x")}, line("abcdefgh"), {Text: runes("y")}, line(""), {}}
}

// differs: what is not the same of a machine and its model; "" if nothing is.
func differs(m *Machine, o *model, e api.Errno) string {
	table, mode, rock := m.Output()
	frame, entered := m.Stack().Frame()
	modelFrame, modelEntered := o.stk.Frame()
	begin, blocks := m.Memory().Heap()
	modelBegin, modelBlocks := o.mem.Heap()
	switch {
	case e == api.OK && m.PC() != o.pc:
		return "PC"
	case table != o.table || mode != o.mode || rock != o.rock:
		return "Output"
	case m.Undos() != len(o.undos):
		return "Undos"
	case m.chance != o.chance:
		return "chance"
	case frame != modelFrame || entered != modelEntered:
		return "Frame"
	case !slices.Equal(m.Stack().Bytes(), o.stk.Bytes()):
		return "stack"
	case begin != modelBegin || !slices.Equal(blocks, modelBlocks):
		return "heap"
	case !slices.Equal(m.Memory().Bytes(), o.mem.Bytes()):
		return "memory"
	}
	return ""
}

// worldsDiffer: what is not the same of two worlds.
func worldsDiffer(a, b *glk.World) string {
	same := func(x, y api.Said) bool { return x.Win == y.Win && slices.Equal(x.Text, y.Text) }
	fileA, okA := a.File("ab")
	fileB, okB := b.File("ab")
	switch {
	case !slices.EqualFunc(a.Out(), b.Out(), same):
		return "Out"
	case !slices.Equal(a.Names(), b.Names()) || okA != okB || !slices.Equal(fileA, fileB):
		return "files"
	case a.Left() != b.Left() || a.Over() != b.Over():
		return "inputs"
	}
	return ""
}

// tally is what was seen of instructions, and of errors.
type tally struct {
	done, failed map[string]int
	errors       map[api.Errno]int
}

// nameAt: the instruction at the model's PC.
func nameAt(o *model) string {
	i, _, e := code.Decode(o.mem.Bytes(), int(o.pc))
	if e != api.OK {
		return ""
	}
	return code.Name(i.Op)
}

// compare: a machine and its model go on side by side.
func compare(t *testing.T, seen tally, g []byte, fuel int) {
	t.Helper()
	w, wo := world(t, inputs()...), world(t, inputs()...)
	m, e := New(g, w)
	o, eo := newModel(g, wo)
	if e != eo {
		t.Fatalf("New: %d; want %d", e, eo)
	}
	if e != api.OK {
		return
	}
	for n := range fuel {
		name, pc := nameAt(o), o.pc
		e, eo := m.Step(), o.step()
		if e != eo {
			t.Fatalf("step %d, %s at %x: %d; want %d", n, name, pc, e, eo)
		}
		if s := differs(m, o, e); s != "" {
			t.Fatalf("step %d, %s at %x: another %s (error %d)", n, name, pc, s, e)
		}
		if s := worldsDiffer(w, wo); s != "" {
			t.Fatalf("step %d, %s at %x: other %s (error %d)", n, name, pc, s, e)
		}
		if e != api.OK {
			seen.failed[name]++
			seen.errors[e]++
			return
		}
		seen.done[name]++
	}
}

// enough: what was seen is what there is, each so often at least.
func (seen tally) enough(t *testing.T, names []string, least int, errors []api.Errno) {
	t.Helper()
	for _, name := range names {
		if seen.done[name] < least {
			t.Errorf("%s: done %d times, failed %d times", name, seen.done[name], seen.failed[name])
		}
	}
	for _, e := range errors {
		if seen.errors[e] < 3 {
			t.Errorf("the error %d came %d times", e, seen.errors[e])
		}
	}
}

// newTally: nothing was seen so far.
func newTally() tally {
	return tally{map[string]int{}, map[string]int{}, map[api.Errno]int{}}
}

func TestByChance(t *testing.T) {
	seen := newTally()
	d := drawing(t, rand.New(rand.NewSource(19)))
	for i := range 1500 {
		d.wild = []int{15, 60, 200, 1000}[i%4]
		compare(t, seen, d.game(), 250)
	}
	seen.enough(t, d.names, 25, []api.Errno{api.ErrZero, api.FatalRead, api.FatalWrite, api.FatalHeap, api.FatalOver, api.FatalUnder, api.FatalFrame, api.FatalLocal, api.FatalThrow, api.FatalOpcode, api.FatalMode, api.FatalFunc, api.FatalText, api.FatalKey, api.FatalLoop, api.ErrOver, api.ErrInput, api.FatalCall})
}

func TestTextsByChance(t *testing.T) {
	seen := newTally()
	d := drawing(t, rand.New(rand.NewSource(1906)))
	d.names = []string{"streamchar", "streamunichar", "streamnum", "streamstr", "streamstr", "setiosys", "setstringtbl", "accelfunc", "throw", "saveundo", "restoreundo"}
	for i := range 600 {
		d.wild = []int{30, 200, 1000}[i%3]
		compare(t, seen, d.game(), 300)
	}
	seen.enough(t, d.names, 100, []api.Errno{api.FatalRead, api.FatalOver, api.FatalFrame, api.FatalText})
}
