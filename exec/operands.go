package exec

import (
	"grotto/api"
	"grotto/code"
)

// The kinds of places where something is stored, as stubs tell them.
const (
	toNowhere = 0
	toMemory  = 1
	toLocal   = 2
	toStack   = 3
)

// place is where something is stored.
type place struct {
	kind uint32
	addr uint32
}

// wordBytes: how many bytes a word has.
const wordBytes = 4

// mostBytes is how many bytes an instruction has at the most: four of its number, and of eight operands the modes, and four each.
const mostBytes = 4 + 8/2 + 8*wordBytes

// storedLetter is the letter of an operand that is where something is stored.
const storedLetter = 'S'

// work is an instruction on its way: what was loaded, in order, and where it stores.
type work struct {
	op   uint32
	name string
	size int // how many bytes the numbers of its operands have in memory and in locals
	l    [8]uint32
	s    [2]place
}

// bytesAt: the bytes of memory from an address on, most of them at the most.
func (m *Machine) bytesAt(at uint32, most int) []byte {
	b := make([]byte, 0, most)
	for len(b)+wordBytes <= most {
		x, e := m.mem.Read(at+uint32(len(b)), wordBytes)
		if e != api.OK {
			break
		}
		b = append(b, byte(x>>24), byte(x>>16), byte(x>>8), byte(x))
	}
	for len(b) < most {
		x, e := m.mem.Read(at+uint32(len(b)), 1)
		if e != api.OK {
			break
		}
		b = append(b, byte(x))
	}
	return b
}

// decode: the instruction at the PC, which is behind it then. All of memory need not be copied for it.
func (m *Machine) decode() (api.Instr, api.Errno) {
	in, n, e := code.Decode(m.bytesAt(m.pc, mostBytes), 0)
	if e != api.OK {
		return api.Instr{}, e
	}
	m.pc += uint32(n)
	return in, api.OK
}

// sizeOf: how many bytes the numbers of an instruction's operands have in memory and in locals.
func sizeOf(name string) int {
	switch name {
	case "copyb":
		return 1
	case "copys":
		return 2
	}
	return wordBytes
}

// operands: an instruction's operands, from left to right, loaded, or told where they are stored.
func (m *Machine) operands(in api.Instr) (work, api.Errno) {
	w := work{op: in.Op, name: code.Name(in.Op)}
	w.size = sizeOf(w.name)
	letters, _ := code.Signature(in.Op)
	loaded, stored := 0, 0
	for i, a := range in.Args {
		if letters[i] == storedLetter {
			w.s[stored] = m.placeOf(a)
			stored++
			continue
		}
		x, e := m.load(a, w.size)
		if e != api.OK {
			return work{}, e
		}
		w.l[loaded] = x
		loaded++
	}
	return w, api.OK
}

// inRam: the address that lies so far behind RamStart.
func (m *Machine) inRam(value uint32) uint32 {
	return m.mem.Header().RamStart + value
}

// lowest: the number that the lowest n bytes of x say.
func lowest(x uint32, n int) uint32 {
	unused := 8 * (wordBytes - n)
	return x << unused >> unused
}

// load: the number that an operand tells, which has n bytes.
func (m *Machine) load(a api.Operand, n int) (uint32, api.Errno) {
	switch a.Mode {
	case api.ModeConst1, api.ModeConst2, api.ModeConst4:
		return lowest(a.Value, n), api.OK
	case api.ModeAddr1, api.ModeAddr2, api.ModeAddr4:
		return m.mem.Read(a.Value, n)
	case api.ModeRam1, api.ModeRam2, api.ModeRam4:
		return m.mem.Read(m.inRam(a.Value), n)
	case api.ModeLocal1, api.ModeLocal2, api.ModeLocal4:
		return m.stk.Local(a.Value, n)
	case api.ModeStack:
		x, e := m.stk.Pop()
		return lowest(x, n), e
	}
	return 0, api.OK
}

// placeOf: where an operand says that something is stored.
func (m *Machine) placeOf(a api.Operand) place {
	switch a.Mode {
	case api.ModeAddr1, api.ModeAddr2, api.ModeAddr4:
		return place{toMemory, a.Value}
	case api.ModeRam1, api.ModeRam2, api.ModeRam4:
		return place{toMemory, m.inRam(a.Value)}
	case api.ModeLocal1, api.ModeLocal2, api.ModeLocal4:
		return place{toLocal, a.Value}
	case api.ModeStack:
		return place{kind: toStack}
	}
	return place{kind: toNowhere}
}

// store: x is stored in n bytes; on the stack it has all four.
func (m *Machine) store(p place, n int, x uint32) api.Errno {
	switch p.kind {
	case toMemory:
		return m.mem.Write(p.addr, n, x)
	case toLocal:
		return m.stk.SetLocal(p.addr, n, x)
	case toStack:
		return m.stk.Push(x)
	}
	return api.OK
}

// answer: what an instruction comes to is stored, each where its next place is.
func (m *Machine) answer(w work, l ...uint32) api.Errno {
	for i, x := range l {
		if e := m.store(w.s[i], w.size, x); e != api.OK {
			return e
		}
	}
	return api.OK
}

// answerUnless: x is stored, unless there is an error.
func (m *Machine) answerUnless(e api.Errno, w work, x uint32) api.Errno {
	if e != api.OK {
		return e
	}
	return m.answer(w, x)
}

// pop: so many values, the top one first.
func (m *Machine) pop(n uint32) ([]uint32, api.Errno) {
	// No room is made ahead: the stack may have far fewer than n.
	var l []uint32
	for range n {
		x, e := m.stk.Pop()
		if e != api.OK {
			return nil, e
		}
		l = append(l, x)
	}
	return l, api.OK
}
