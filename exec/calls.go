package exec

import (
	"grotto/api"
	"grotto/memory"
	"grotto/stack"
)

// doCall: functions that are entered and left.
func (m *Machine) doCall(w work) api.Errno {
	a, b := w.l[0], w.l[1]
	switch w.name {
	case "return":
		return m.leave(a)
	case "catch":
		return m.catch(w)
	case "throw":
		if e := m.stk.Throw(b); e != api.OK {
			return e
		}
		return m.back(a)
	}
	l, e := m.pop(b)
	if e != api.OK {
		return e
	}
	if w.name == "call" {
		return m.call(a, w.s[0], l...)
	}
	// Another function stands in the place of this one: the stub below it leads back from both.
	if e := m.stk.Leave(); e != api.OK {
		return e
	}
	return m.enter(a, l...)
}

// catch: a stub to which one is thrown back.
func (m *Machine) catch(w work) api.Errno {
	if e := m.stub(w.s[0]); e != api.OK {
		return e
	}
	if e := m.answer(w, m.stk.Top()); e != api.OK {
		return e
	}
	return m.branch(w.l[0])
}

// space is memory and stack, as calls of the world look at them.
type space struct {
	mem *memory.Memory
	stk *stack.Stack
}

func (s space) Get(addr uint32, n int) (uint32, api.Errno) {
	return s.mem.Read(addr, n)
}

func (s space) Set(addr uint32, n int, x uint32) api.Errno {
	return s.mem.Write(addr, n, x)
}

func (s space) Push(x uint32) api.Errno {
	return s.stk.Push(x)
}

// doGlk: a call of the world.
func (m *Machine) doGlk(w work) api.Errno {
	args, e := m.pop(w.l[1])
	if e != api.OK {
		return e
	}
	x, e := m.world.Call(space{m.mem, m.stk}, w.l[0], args...)
	if e != api.OK {
		return e
	}
	if m.world.Over() {
		m.end = api.ErrOver
	}
	return m.answer(w, x)
}

// doOutput: how things are told.
func (m *Machine) doOutput(w work) api.Errno {
	switch w.name {
	case "setstringtbl":
		m.table = w.l[0]
	case "getstringtbl":
		return m.answer(w, m.table)
	case "setiosys":
		m.mode, m.rock = w.l[0], w.l[1]
		if m.mode > modePut {
			m.mode = modeNone
		}
	case "getiosys":
		return m.answer(w, m.mode, m.rock)
	}
	return api.OK
}
