package exec

import (
	"grotto/accel"
	"grotto/api"
	"grotto/code"
	"grotto/find"
	"grotto/glk"
	"grotto/memory"
	"grotto/reals"
	"grotto/snap"
	"grotto/stack"
	"grotto/text"
	"grotto/word"
)

// model is the machine once more, written from the chapter's words alone: one sentence, one line. What is wrong is a panic with the error.
type model struct {
	mem               *memory.Memory
	stk               *stack.Stack
	world             *glk.World
	fast              *accel.Table
	undos             []api.State
	pc                uint32
	table, mode, rock uint32
	chance            uint32
	over              bool
	fault             api.Errno

	hasStopped bool
	shown      int
}

func must(e api.Errno) {
	if e != api.OK {
		panic(e)
	}
}

func got[T any](x T, e api.Errno) T {
	must(e)
	return x
}

func newModel(game []byte, w *glk.World) (m *model, e api.Errno) {
	if w == nil {
		return nil, api.ErrNil
	}
	mem, e, _ := memory.New(game)
	if e != api.OK {
		return nil, e
	}
	m = &model{mem: mem, world: w, fast: accel.New(), chance: 1}
	if e := m.try(m.begins); e != api.OK {
		return nil, e
	}
	return m, api.OK
}

func (m *model) try(do func()) (e api.Errno) {
	defer func() {
		if r := recover(); r != nil {
			e = r.(api.Errno)
		}
	}()
	do()
	return api.OK
}

func (m *model) begins() {
	m.stk = got(stack.New(int(m.mem.Header().StackSize)))
	m.table, m.mode, m.rock = m.mem.Header().Table, 0, 0
	m.enter(m.mem.Header().Start)
}

func (m *model) step() api.Errno {
	if m.fault == api.OK && m.over {
		return api.ErrOver
	}
	if m.fault == api.OK {
		m.hasStopped, m.shown = false, 0
		m.fault = m.try(m.instruction)
	}
	return m.fault
}

func (m *model) run(fuel int) (int, api.Errno) {
	for n := range max(fuel, 0) {
		if e := m.step(); e != api.OK {
			return n, e
		}
	}
	return max(fuel, 0), api.OK
}

// dest is where something is stored, by the operand, and how many bytes it has there.
type dest struct {
	o api.Operand
	n int
}

func (m *model) addrOf(o api.Operand) uint32 {
	if o.Mode >= api.ModeRam1 {
		return m.mem.Header().RamStart + o.Value
	}
	return o.Value
}

func kindOf(o api.Operand) uint32 {
	switch {
	case o.Mode == api.ModeZero:
		return 0
	case o.Mode == api.ModeStack:
		return 3
	case o.Mode >= api.ModeLocal1 && o.Mode <= api.ModeLocal4:
		return 2
	}
	return 1
}

func low(x uint32, n int) uint32 {
	return uint32(uint64(x) % (1 << (8 * n)))
}

func (m *model) loaded(o api.Operand, n int) uint32 {
	switch {
	case o.Mode == api.ModeZero:
		return 0
	case o.Mode <= api.ModeConst4:
		return low(o.Value, n)
	case o.Mode == api.ModeStack:
		return low(got(m.stk.Pop()), n)
	case kindOf(o) == 2:
		return got(m.stk.Local(o.Value, n))
	}
	return got(m.mem.Read(m.addrOf(o), n))
}

func (m *model) storeAt(kind, addr uint32, n int, x uint32) {
	switch kind {
	case 1:
		must(m.mem.Write(addr, n, x))
	case 2:
		must(m.stk.SetLocal(addr, n, x))
	case 3:
		must(m.stk.Push(x))
	}
}

func (m *model) stored(d dest, x uint32) {
	m.storeAt(kindOf(d.o), m.addrOf(d.o), d.n, x)
}

func (m *model) stubFor(d dest) {
	kind, addr := kindOf(d.o), uint32(0)
	if kind == 1 || kind == 2 {
		addr = m.addrOf(d.o)
	}
	must(m.stk.Stub(kind, addr, m.pc))
}

func (m *model) enter(f uint32, l ...uint32) {
	if n := m.fast.At(f); n != 0 {
		x, slip, e := accel.Do(m.mem, m.fast.Params(), n, l...)
		must(e)
		if slip != 0 && m.mode == 2 {
			for _, c := range "\n" + accel.Slip(slip) + "\n" {
				m.world.Put(uint32(c))
			}
		}
		m.goBack(x)
		return
	}
	kind, format, n, e := code.Head(m.mem.Bytes(), int(f))
	must(e)
	must(m.stk.Enter(format))
	if kind == api.FuncLocals {
		must(m.stk.Args(l...))
	} else {
		for i := range l {
			must(m.stk.Push(l[len(l)-1-i]))
		}
		must(m.stk.Push(uint32(len(l))))
	}
	m.pc = f + uint32(n)
}

func (m *model) calling(f uint32, d dest, l ...uint32) {
	m.stubFor(d)
	m.enter(f, l...)
}

func (m *model) goBack(x uint32) {
	kind, addr, pc, e := m.stk.Unstub()
	if e == api.ErrNone {
		m.over = true
		return
	}
	must(e)
	m.pc = pc
	switch kind {
	case 0, 11:
	case 1, 2, 3:
		m.storeAt(kind, addr, 4, x)
	default:
		m.goOnBy(kind, addr, pc)
	}
}

func (m *model) goOnBy(kind, addr, pc uint32) {
	m.hasStopped = true
	switch kind {
	case 10:
		m.textAt(api.TextAt{Kind: api.TextPacked, Addr: pc, Bit: addr % 8}, addr/8)
	case 13:
		m.textAt(api.TextAt{Kind: api.TextBytes, Addr: pc, Bit: addr % 8}, addr/8)
	case 14:
		m.textAt(api.TextAt{Kind: api.TextWords, Addr: pc, Bit: addr % 8}, addr/8)
	case 12:
		m.numberAt(pc, addr)
	default:
		panic(api.FatalFrame)
	}
}

func (m *model) returning(x uint32) {
	must(m.stk.Leave())
	m.goBack(x)
}

func (m *model) branching(x uint32) {
	pc, back, v := code.Jump(m.pc, x)
	if back {
		m.returning(v)
	} else {
		m.pc = pc
	}
}

func (m *model) stops(kind, a, b uint32) {
	if !m.hasStopped {
		must(m.stk.Stub(11, 0, m.pc))
	}
	m.hasStopped = true
	must(m.stk.Stub(kind, a, b))
}

func textStub(at api.TextAt, k uint32) (kind, a, b uint32) {
	kinds := map[int]uint32{api.TextPacked: 10, api.TextBytes: 13, api.TextWords: 14}
	return kinds[at.Kind], 8*k + at.Bit, at.Addr
}

func (m *model) textAt(at api.TextAt, k uint32) {
	p, behind, e := text.Next(m.mem.Bytes(), m.table, at)
	must(e)
	m.shown += 1 + len(p.Chars)
	if m.shown > api.MaxShow {
		panic(api.FatalText)
	}
	switch {
	case p.Kind == api.PieceEnd:
		m.ends()
	case p.Kind == api.PieceChars && m.mode == 1 && int(k) < len(p.Chars):
		m.stops(textStub(at, k+1))
		m.enter(m.rock, p.Chars[k])
	case p.Kind == api.PieceChars:
		for i, c := range p.Chars {
			if m.mode == 2 && i >= int(k) {
				m.world.Put(c)
			}
		}
		m.textAt(behind, 0)
	default:
		switch got(m.mem.Read(p.Addr, 1)) {
		case 0xe0, 0xe1, 0xe2:
			m.stops(textStub(behind, 0))
			m.textAt(got(text.Begin(m.mem.Bytes(), p.Addr)), 0)
		case 0xc0, 0xc1:
			m.stops(textStub(behind, 0))
			m.enter(p.Addr, p.Args...)
		default:
			panic(api.FatalText)
		}
	}
}

func (m *model) numberAt(x, k uint32) {
	digits := word.Decimal(x)
	if m.mode == 1 && int(k) < len(digits) {
		m.stops(12, k+1, x)
		m.enter(m.rock, uint32(digits[k]))
		return
	}
	for i := int(k); i < len(digits) && m.mode == 2; i++ {
		m.world.Put(uint32(digits[i]))
	}
	m.ends()
}

func (m *model) ends() {
	if !m.hasStopped {
		return
	}
	kind, addr, pc, e := m.stk.Unstub()
	must(e)
	if kind == 11 {
		m.pc = pc
	} else {
		m.goOnBy(kind, addr, pc)
	}
}

func (m *model) char(c uint32) {
	switch m.mode {
	case 1:
		must(m.stk.Stub(0, 0, m.pc))
		m.enter(m.rock, c)
	case 2:
		m.world.Put(c)
	}
}

func (m *model) popped(n uint32) (l []uint32) {
	for range n {
		l = append(l, got(m.stk.Pop()))
	}
	return l
}

// modelSpace is memory and stack as a Space.
type modelSpace struct{ *model }

func (s modelSpace) Get(addr uint32, n int) (uint32, api.Errno) { return s.mem.Read(addr, n) }
func (s modelSpace) Set(addr uint32, n int, x uint32) api.Errno { return s.mem.Write(addr, n, x) }
func (s modelSpace) Push(x uint32) api.Errno                    { return s.stk.Push(x) }

func (m *model) instruction() {
	i, n, e := code.Decode(m.mem.Bytes(), int(m.pc))
	must(e)
	m.pc += uint32(n)
	name := code.Name(i.Op)
	size := 4
	switch name {
	case "copys":
		size = 2
	case "copyb":
		size = 1
	}
	letters, _ := code.Signature(i.Op)
	l, d := make([]uint32, 0, 8), make([]dest, 0, 2)
	for j, o := range i.Args {
		if letters[j] == 'L' {
			l = append(l, m.loaded(o, size))
		} else {
			d = append(d, dest{o, size})
		}
	}
	m.perform(name, append(l, make([]uint32, 8-len(l))...), append(d, make([]dest, 2-len(d))...))
}

// perform: by its name an instruction is done, with what was loaded and where it stores.
func (m *model) perform(name string, l []uint32, d []dest) {
	for _, group := range []func(string, []uint32, []dest) bool{m.wordsOf, m.jumpsOf, m.callsOf, m.dataOf, m.systemOf, m.statesOf, m.singlesOf, m.doublesOf} {
		if group(name, l, d) {
			return
		}
	}
	panic("no such instruction: " + name)
}

func (m *model) wordsOf(name string, l []uint32, d []dest) bool {
	a, b := l[0], l[1]
	var x uint32
	switch name {
	case "add":
		x = uint32(uint64(a) + uint64(b))
	case "sub":
		x = uint32(uint64(a) - uint64(b))
	case "mul":
		x = uint32(uint64(a) * uint64(b))
	case "div":
		x = got(word.Div(a, b))
	case "mod":
		x = got(word.Mod(a, b))
	case "neg":
		x = 1 + ^a
	case "bitand":
		x = a & b
	case "bitor":
		x = a | b
	case "bitxor":
		x = a ^ b
	case "bitnot":
		x = top - a
	case "shiftl":
		x = word.Shl(a, b)
	case "ushiftr":
		x = word.Shr(a, b)
	case "sshiftr":
		x = word.Sar(a, b)
	case "copy", "copys", "copyb":
		x = a
	case "sexs":
		x = word.Extend(a, 2)
	case "sexb":
		x = word.Extend(a, 1)
	default:
		return false
	}
	m.stored(d[0], x)
	return true
}

func (m *model) jumpsOf(name string, l []uint32, d []dest) bool {
	conds := []string{"", "jeq", "jne", "jlt", "jge", "jgt", "jle", "jltu", "jgeu", "jgtu", "jleu"}
	for cond, s := range conds {
		if name == s && cond > 0 {
			if word.Holds(cond, l[0], l[1]) {
				m.branching(l[2])
			}
			return true
		}
	}
	switch name {
	case "jump":
		m.branching(l[0])
	case "jz", "jnz":
		if (l[0] == 0) == (name == "jz") {
			m.branching(l[1])
		}
	case "jumpabs":
		m.pc = l[0]
	default:
		return false
	}
	return true
}

func (m *model) callsOf(name string, l []uint32, d []dest) bool {
	a, b := l[0], l[1]
	switch name {
	case "call":
		args := m.popped(b)
		m.calling(a, d[0], args...)
	case "callf":
		m.calling(a, d[0])
	case "callfi":
		m.calling(a, d[0], l[1])
	case "callfii":
		m.calling(a, d[0], l[1], l[2])
	case "callfiii":
		m.calling(a, d[0], l[1], l[2], l[3])
	case "return":
		m.returning(a)
	case "tailcall":
		args := m.popped(b)
		must(m.stk.Leave())
		m.enter(a, args...)
	case "catch":
		m.stubFor(d[0])
		m.stored(d[0], m.stk.Top())
		m.branching(a)
	case "throw":
		must(m.stk.Throw(b))
		m.goBack(a)
	case "glk":
		args := m.popped(b)
		x := got(m.world.Call(modelSpace{m}, a, args...))
		m.stored(d[0], x)
		m.over = m.over || m.world.Over()
	default:
		return false
	}
	return true
}

func floor8(b uint32) (bytes uint32, bit uint) {
	x := int64(int32(b))
	q := x / 8
	if x%8 < 0 {
		q--
	}
	return uint32(q), uint(x - 8*q)
}

func (m *model) dataOf(name string, l []uint32, d []dest) bool {
	a, b, x := l[0], l[1], l[2]
	sizes := map[string]uint32{"aload": 4, "aloads": 2, "aloadb": 1, "astore": 4, "astores": 2, "astoreb": 1}
	n := sizes[name]
	switch name {
	case "aload", "aloads", "aloadb":
		m.stored(d[0], got(m.mem.Read(a+n*b, int(n))))
	case "astore", "astores", "astoreb":
		must(m.mem.Write(a+n*b, int(n), x))
	case "aloadbit":
		q, bit := floor8(b)
		m.stored(d[0], got(m.mem.Read(a+q, 1))>>bit%2)
	case "astorebit":
		q, bit := floor8(b)
		was := got(m.mem.Read(a+q, 1))
		now := was | 1<<bit
		if x == 0 {
			now -= 1 << bit
		}
		must(m.mem.Write(a+q, 1, now))
	case "stkcount":
		m.stored(d[0], uint32(m.stk.Count()))
	case "stkpeek":
		m.stored(d[0], got(m.stk.Peek(a)))
	case "stkswap":
		must(m.stk.Swap())
	case "stkroll":
		must(m.stk.Roll(a, b))
	case "stkcopy":
		must(m.stk.Dup(a))
	default:
		return false
	}
	return true
}

func (m *model) systemOf(name string, l []uint32, d []dest) bool {
	a, b := l[0], l[1]
	switch name {
	case "nop", "debugtrap":
	case "streamchar":
		m.char(low(a, 1))
	case "streamunichar":
		m.char(a)
	case "streamnum":
		m.numberAt(a, 0)
	case "streamstr":
		m.textAt(got(text.Begin(m.mem.Bytes(), a)), 0)
	case "setstringtbl":
		m.table = a
	case "getstringtbl":
		m.stored(d[0], m.table)
	case "setiosys":
		m.mode, m.rock = a, b
		if a > 2 {
			m.mode = 0
		}
	case "getiosys":
		m.stored(d[0], m.mode)
		m.stored(d[1], m.rock)
	case "gestalt":
		m.stored(d[0], m.gestaltOf(a, b))
	case "verify":
		m.stored(d[0], 0)
	case "getmemsize":
		m.stored(d[0], m.mem.Size())
	case "setmemsize":
		m.stored(d[0], one(!m.mem.Resize(a)))
	case "mzero":
		must(m.mem.Fill(b, a))
	case "mcopy":
		must(m.mem.Move(a, b, l[2]))
	case "malloc":
		m.stored(d[0], m.mem.Malloc(a))
	case "mfree":
		must(m.mem.Free(a))
	case "protect":
		m.mem.Protect(a, b)
	case "accelfunc":
		m.fast.Func(a, b)
	case "accelparam":
		m.fast.Param(a, b)
	case "random":
		m.stored(d[0], m.randomOf(a))
	case "setrandom":
		m.chance = max(a, 1)
	case "linearsearch":
		m.stored(d[0], got(find.Linear(m.mem, api.Search{Key: a, KeySize: b, Start: l[2], Size: l[3], Count: l[4], Offset: l[5], Options: l[6]})))
	case "binarysearch":
		m.stored(d[0], got(find.Binary(m.mem, api.Search{Key: a, KeySize: b, Start: l[2], Size: l[3], Count: l[4], Offset: l[5], Options: l[6]})))
	case "linkedsearch":
		m.stored(d[0], got(find.Linked(m.mem, api.Search{Key: a, KeySize: b, Start: l[2], Offset: l[3], Next: l[4], Options: l[5]})))
	default:
		return false
	}
	return true
}

func one(b bool) uint32 {
	if b {
		return 1
	}
	return 0
}

func (m *model) gestaltOf(a, b uint32) uint32 {
	start, _ := m.mem.Heap()
	all := map[uint32]uint32{0: 0x30103, 1: 0x100, 2: 1, 3: 1, 4: one(b < 3), 5: 1, 6: 1, 7: 1, 8: start, 9: 1, 10: one(b > 0 && b < 14), 11: 1, 12: 1, 13: 1}
	return all[a]
}

func (m *model) randomOf(a uint32) uint32 {
	x := m.chance
	x = x ^ x<<13
	x = x ^ x>>17
	x = x ^ x<<5
	m.chance = x
	n := int64(int32(a))
	switch {
	case n > 0:
		return uint32(int64(x) % n)
	case n < 0:
		return uint32(0 - int64(x)%-n)
	}
	return x
}

func (m *model) statesOf(name string, l []uint32, d []dest) bool {
	switch name {
	case "quit":
		m.over = true
	case "restart":
		m.mem.Restart()
		m.begins()
	case "save":
		m.stubFor(d[0])
		m.goBack(one(!m.world.Lay(l[0], got(snap.Put(m.mem, m.stk)))))
	case "restore":
		if b, ok := m.world.Rest(l[0]); ok {
			if st, e := snap.Get(m.mem, b); e == api.OK && snap.Load(m.mem, m.stk, st) == api.OK {
				m.goBack(top)
				return true
			}
		}
		m.stored(d[0], 1)
	case "saveundo":
		m.stubFor(d[0])
		m.undos = append(m.undos, got(snap.Take(m.mem, m.stk)))
		m.undos = m.undos[max(0, len(m.undos)-api.KeptUndo):]
		m.goBack(0)
	case "restoreundo":
		if n := len(m.undos); n > 0 {
			st := m.undos[n-1]
			m.undos = m.undos[:n-1]
			if snap.Load(m.mem, m.stk, st) == api.OK {
				m.goBack(top)
				return true
			}
		}
		m.stored(d[0], 1)
	case "hasundo":
		m.stored(d[0], one(len(m.undos) == 0))
	case "discardundo":
		m.undos = m.undos[:max(0, len(m.undos)-1)]
	default:
		return false
	}
	return true
}

func (m *model) singlesOf(name string, l []uint32, d []dest) bool {
	a, b := l[0], l[1]
	ops := map[string]int{"fadd": 1, "fsub": 2, "fmul": 3, "fdiv": 4, "sqrt": 7, "ceil": 8, "floor": 9}
	conds := map[string]int{"jfeq": 1, "jfne": 2, "jflt": 3, "jfle": 4, "jfgt": 5, "jfge": 6, "jisnan": 7, "jisinf": 8}
	switch {
	case name == "numtof":
		m.stored(d[0], reals.SingleOf(a))
	case name == "ftonumz" || name == "ftonumn":
		m.stored(d[0], reals.SingleInt(a, name == "ftonumn"))
	case name == "fmod":
		m.stored(d[0], got(reals.Single(5, a, b)))
		m.stored(d[1], got(reals.Single(6, a, b)))
	case ops[name] > 0:
		m.stored(d[0], got(reals.Single(ops[name], a, b)))
	case conds[name] > 0:
		cond := conds[name]
		if reals.SingleHolds(cond, a, b, l[2]) {
			m.branching(map[int]uint32{1: l[3], 2: l[3], 7: b, 8: b, 3: l[2], 4: l[2], 5: l[2], 6: l[2]}[cond])
		}
	default:
		return false
	}
	return true
}

func (m *model) doublesOf(name string, l []uint32, d []dest) bool {
	a, b, tol := reals.Join(l[0], l[1]), reals.Join(l[2], l[3]), reals.Join(l[4], l[5])
	two := func(x uint64) {
		m.stored(d[0], uint32(x>>32))
		m.stored(d[1], uint32(x))
	}
	ops := map[string]int{"dadd": 1, "dsub": 2, "dmul": 3, "ddiv": 4, "dmodr": 5, "dmodq": 6, "dsqrt": 7, "dceil": 8, "dfloor": 9}
	conds := map[string]int{"jdeq": 1, "jdne": 2, "jdlt": 3, "jdle": 4, "jdgt": 5, "jdge": 6, "jdisnan": 7, "jdisinf": 8}
	switch {
	case name == "numtod":
		two(reals.DoubleOf(l[0]))
	case name == "dtonumz" || name == "dtonumn":
		m.stored(d[0], reals.DoubleInt(a, name == "dtonumn"))
	case name == "ftod":
		two(reals.Widen(l[0]))
	case name == "dtof":
		m.stored(d[0], reals.Narrow(a))
	case ops[name] > 0:
		two(got(reals.Double(ops[name], a, b)))
	case conds[name] > 0:
		cond := conds[name]
		if reals.DoubleHolds(cond, a, b, tol) {
			m.branching(map[int]uint32{1: l[6], 2: l[6], 7: l[2], 8: l[2], 3: l[4], 4: l[4], 5: l[4], 6: l[4]}[cond])
		}
	default:
		return false
	}
	return true
}
