package exec

import (
	"grotto/api"
	"grotto/find"
	"grotto/word"
)

// doData: copies, and rows of numbers in memory.
func (m *Machine) doData(w work) api.Errno {
	a, b, c := w.l[0], w.l[1], w.l[2]
	switch w.name {
	case "copy", "copys", "copyb":
		return m.answer(w, a)
	case "sexs":
		return m.answer(w, word.Extend(a, 2))
	case "sexb":
		return m.answer(w, word.Extend(a, 1))
	case "aload", "aloads", "aloadb":
		n := rowSize(w.name)
		x, e := m.mem.Read(a+uint32(n)*b, n)
		return m.answerUnless(e, w, x)
	case "aloadbit":
		addr, bit := bitAt(a, b)
		x, e := m.mem.Read(addr, 1)
		return m.answerUnless(e, w, x>>bit&1)
	case "astorebit":
		return m.storeBit(a, b, c != 0)
	}
	n := rowSize(w.name)
	return m.mem.Write(a+uint32(n)*b, n, c)
}

// rowSize: how many bytes each number has of the row in which an instruction loads or stores.
func rowSize(name string) int {
	switch name {
	case "aloadb", "astoreb":
		return 1
	case "aloads", "astores":
		return 2
	}
	return wordBytes
}

// bitAt: the address of the byte in which the bit b lies, counted from the byte at a on, and which one of its bits it is.
func bitAt(a, b uint32) (addr, bit uint32) {
	return a + word.Sar(b, 3), b % 8
}

// storeBit: the bit b from a on is 1 or 0. The byte is read ahead of it: the others of its bits stay.
func (m *Machine) storeBit(a, b uint32, one bool) api.Errno {
	addr, bit := bitAt(a, b)
	x, e := m.mem.Read(addr, 1)
	if e != api.OK {
		return e
	}
	x &^= 1 << bit
	if one {
		x |= 1 << bit
	}
	return m.mem.Write(addr, 1, x)
}

// doStack: the stack's values.
func (m *Machine) doStack(w work) api.Errno {
	a, b := w.l[0], w.l[1]
	switch w.name {
	case "stkcount":
		return m.answer(w, uint32(m.stk.Count()))
	case "stkpeek":
		x, e := m.stk.Peek(a)
		return m.answerUnless(e, w, x)
	case "stkswap":
		return m.stk.Swap()
	case "stkroll":
		return m.stk.Roll(a, b)
	}
	return m.stk.Dup(a)
}

// doSearch: structures that are looked for.
func (m *Machine) doSearch(w work) api.Errno {
	l := w.l
	s := api.Search{Key: l[0], KeySize: l[1], Start: l[2]}
	if w.name == "linkedsearch" {
		s.Offset, s.Next, s.Options = l[3], l[4], l[5]
		x, e := find.Linked(m.mem, s)
		return m.answerUnless(e, w, x)
	}
	s.Size, s.Count, s.Offset, s.Options = l[3], l[4], l[5], l[6]
	look := find.Linear
	if w.name == "binarysearch" {
		look = find.Binary
	}
	x, e := look(m.mem, s)
	return m.answerUnless(e, w, x)
}
