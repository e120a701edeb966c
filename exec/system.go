package exec

import "grotto/api"

// What the machine says of itself.
const (
	machineVersion = 0x30103
	programVersion = 0x100
)

// doMemory: memory as a whole, and what there is.
func (m *Machine) doMemory(w work) api.Errno {
	a, b, c := w.l[0], w.l[1], w.l[2]
	switch w.name {
	case "gestalt":
		return m.answer(w, m.gestalt(a, b))
	case "getmemsize":
		return m.answer(w, m.mem.Size())
	case "setmemsize":
		return m.answer(w, refused(m.mem.Resize(a)))
	case "jumpabs":
		m.pc = a
	case "mzero":
		return m.mem.Fill(b, a)
	case "mcopy":
		return m.mem.Move(a, b, c)
	case "malloc":
		return m.answer(w, m.mem.Malloc(a))
	case "mfree":
		return m.mem.Free(a)
	}
	return api.OK
}

// refused: 0, if something was done, else 1.
func refused(done bool) uint32 {
	if done {
		return 0
	}
	return 1
}

// holds: 1, if it holds, else 0.
func holds(b bool) uint32 {
	return 1 - refused(b)
}

// gestalt: what the machine has.
func (m *Machine) gestalt(a, b uint32) uint32 {
	switch a {
	case 0:
		return machineVersion
	case 1:
		return programVersion
	case 2, 3, 5, 6, 7, 9, 11, 12, 13:
		return 1
	case 4:
		return holds(b <= modePut)
	case 8:
		start, _ := m.mem.Heap()
		return start
	case 10:
		return holds(b >= 1 && b <= api.MaxFast)
	}
	return 0
}

// doAccel: which functions are hastened.
func (m *Machine) doAccel(w work) {
	if w.name == "accelfunc" {
		m.fast.Func(w.l[0], w.l[1])
		return
	}
	m.fast.Param(w.l[0], w.l[1])
}
