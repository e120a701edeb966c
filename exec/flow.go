package exec

import (
	"grotto/accel"
	"grotto/api"
	"grotto/code"
)

// firstChance is what the chance is at first, and where it would be 0: out of 0 nothing but 0 comes.
const firstChance = 1

// Kinds of stubs that lead back to what is told.
const (
	stubPacked = 10
	stubDone   = 11
	stubNumber = 12
	stubBytes  = 13
	stubWords  = 14
)

// begin: all is as a game begins, but memory, the chance, hastened functions, states to undo, and the world.
func (m *Machine) begin() api.Errno {
	m.emptyStack()
	head := m.mem.Header()
	m.table, m.mode, m.rock = head.Table, modeNone, 0
	return m.enter(head.Start)
}

// emptyStack: nothing lies on the stack any more. It stays the same one: whoever looks at it goes on to see the machine's own.
func (m *Machine) emptyStack() {
	for e := api.OK; e == api.OK; {
		m.stk.Leave()
		_, _, _, e = m.stk.Unstub()
	}
}

// step: an instruction, and the text that goes on by it.
func (m *Machine) step() api.Errno {
	in, e := m.decode()
	if e != api.OK {
		return e
	}
	w, e := m.operands(in)
	if e != api.OK {
		return e
	}
	if e := m.do(w); e != api.OK {
		return e
	}
	return m.tellOn()
}

// do: an instruction is done, by the group that its number but the lowest four bits tells.
func (m *Machine) do(w work) api.Errno {
	switch w.op >> 4 {
	case 0x01:
		x, e := reckon(w.name, w.l[0], w.l[1])
		return m.answerUnless(e, w, x)
	case 0x02:
		return m.doJump(w)
	case 0x03:
		return m.doCall(w)
	case 0x04:
		return m.doData(w)
	case 0x05:
		return m.doStack(w)
	case 0x07:
		return m.doStream(w)
	case 0x10, 0x17:
		return m.doMemory(w)
	case 0x11:
		return m.doRandom(w)
	case 0x12:
		return m.doState(w)
	case 0x13:
		return m.doGlk(w)
	case 0x14:
		return m.doOutput(w)
	case 0x15:
		return m.doSearch(w)
	case 0x16:
		// As many arguments as the lowest four bits say, behind the function.
		return m.call(w.l[0], w.s[0], w.l[1:1+w.op&0xf]...)
	case 0x18:
		m.doAccel(w)
	case 0x19, 0x1a:
		return m.doSingle(w)
	case 0x1c:
		return m.doSingleJump(w)
	case 0x20, 0x21:
		return m.doDouble(w)
	case 0x23:
		return m.doDoubleJump(w)
	}
	return api.OK
}

// enter: a function is entered.
func (m *Machine) enter(f uint32, l ...uint32) api.Errno {
	if n := m.fast.At(f); n != 0 {
		return m.hasten(n, l)
	}
	kind, format, n, e := code.Head(m.headAt(f), 0)
	if e != api.OK {
		return e
	}
	if e := m.stk.Enter(format); e != api.OK {
		return e
	}
	m.pc = f + uint32(n)
	if kind == api.FuncLocals {
		return m.stk.Args(l...)
	}
	for i := len(l) - 1; i >= 0; i-- {
		if e := m.stk.Push(l[i]); e != api.OK {
			return e
		}
	}
	return m.stk.Push(uint32(len(l)))
}

// headAt: the bytes of memory from an address on, as far as the head of a function can go there: the byte of its kind, and pairs up to one that is 0 0.
func (m *Machine) headAt(f uint32) []byte {
	b := m.bytesAt(f, 1)
	// Without the first byte nothing is looked at: behind the last address there is lies the first one.
	for more := len(b) > 0; more; {
		pair := m.bytesAt(f+uint32(len(b)), 2)
		b = append(b, pair...)
		more = len(pair) == 2 && (pair[0] != 0 || pair[1] != 0)
	}
	return b
}

// hasten: the machine does a function by itself, and goes back with what it comes to.
func (m *Machine) hasten(n uint32, l []uint32) api.Errno {
	x, slip, e := accel.Do(m.mem, m.fast.Params(), n, l...)
	if e != api.OK {
		return e
	}
	if slip != api.SlipNone && m.mode == modePut {
		m.world.Put(newLine)
		for _, c := range accel.Slip(slip) {
			m.world.Put(uint32(c))
		}
		m.world.Put(newLine)
	}
	return m.back(x)
}

// stub: a stub for an answer that is stored in a place.
func (m *Machine) stub(p place) api.Errno {
	return m.stk.Stub(p.kind, p.addr, m.pc)
}

// call: a function is called, its answer to a place.
func (m *Machine) call(f uint32, p place, l ...uint32) api.Errno {
	if e := m.stub(p); e != api.OK {
		return e
	}
	return m.enter(f, l...)
}

// back: one goes back with x to where the stub on top leads.
func (m *Machine) back(x uint32) api.Errno {
	kind, addr, pc, e := m.stk.Unstub()
	switch e {
	case api.OK:
	case api.ErrNone:
		m.end = api.ErrOver
		return api.OK
	default:
		return e
	}
	m.pc = pc
	switch kind {
	case toNowhere, stubDone:
		return api.OK
	case toMemory, toLocal, toStack:
		return m.store(place{kind, addr}, wordBytes, x)
	}
	return m.tellBy(kind, addr, pc)
}

// leave: a function is left, and one goes back with x.
func (m *Machine) leave(x uint32) api.Errno {
	if e := m.stk.Leave(); e != api.OK {
		return e
	}
	return m.back(x)
}

// branch: one branches by x.
func (m *Machine) branch(x uint32) api.Errno {
	pc, back, v := code.Jump(m.pc, x)
	if back {
		return m.leave(v)
	}
	m.pc = pc
	return api.OK
}

// branchIf: one branches by x, if something holds.
func (m *Machine) branchIf(holds bool, x uint32) api.Errno {
	if !holds {
		return api.OK
	}
	return m.branch(x)
}
