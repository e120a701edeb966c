package exec

import (
	"grotto/api"
	"grotto/snap"
)

// thereAgain is with what one goes back to where a state was kept, when it is loaded.
const thereAgain = 1<<32 - 1

// doState: the end, the beginning, and states that are kept.
func (m *Machine) doState(w work) api.Errno {
	switch w.name {
	case "quit":
		m.end = api.ErrOver
	case "verify":
		return m.answer(w, 0)
	case "restart":
		m.mem.Restart()
		return m.begin()
	case "save":
		return m.save(w)
	case "restore":
		return m.backIf(m.restore(w.l[0]), w)
	case "saveundo":
		return m.saveUndo(w)
	case "restoreundo":
		return m.backIf(m.restoreUndo(), w)
	case "protect":
		m.mem.Protect(w.l[0], w.l[1])
	case "hasundo":
		return m.answer(w, refused(m.undo.Len() > 0))
	case "discardundo":
		m.undo.Pop()
	}
	return api.OK
}

// save: the state comes to a stream. It has the stub in it that leads back from here, as often as it is loaded.
func (m *Machine) save(w work) api.Errno {
	if e := m.stub(w.s[0]); e != api.OK {
		return e
	}
	b, e := snap.Put(m.mem, m.stk)
	if e != api.OK {
		return e
	}
	return m.back(refused(m.world.Lay(w.l[0], b)))
}

// restore: the state is there that a stream tells; false, if there is none.
func (m *Machine) restore(stream uint32) bool {
	b, ok := m.world.Rest(stream)
	if !ok {
		return false
	}
	st, e := snap.Get(m.mem, b)
	return e == api.OK && snap.Load(m.mem, m.stk, st) == api.OK
}

// saveUndo: the state is one to undo.
func (m *Machine) saveUndo(w work) api.Errno {
	if e := m.stub(w.s[0]); e != api.OK {
		return e
	}
	st, e := snap.Take(m.mem, m.stk)
	if e != api.OK {
		return e
	}
	m.undo.Push(st)
	return m.back(0)
}

// restoreUndo: the last state to undo is there; false, if there is none.
func (m *Machine) restoreUndo() bool {
	st, ok := m.undo.Pop()
	return ok && snap.Load(m.mem, m.stk, st) == api.OK
}

// backIf: one goes back to where a state was kept, if it is there, else that it is not is stored.
func (m *Machine) backIf(there bool, w work) api.Errno {
	if there {
		return m.back(thereAgain)
	}
	return m.answer(w, refused(there))
}
