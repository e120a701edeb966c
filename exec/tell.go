package exec

import (
	"grotto/api"
	"grotto/text"
	"grotto/word"
)

// The modes of what is told.
const (
	modeNone = 0
	modeCall = 1
	modePut  = 2
)

// newLine stands ahead of a slip's words and behind them.
const newLine = 10

// bitsPerByte: a stub tells by one number which of so many bits is the next, and how many characters are told.
const bitsPerByte = 8

// spot is where one goes on to tell: in a text, or among a number's digits, behind k characters of its piece.
type spot struct {
	number bool
	x      uint32 // the number
	at     api.TextAt
	k      uint32
}

// telling is what a step has told of texts.
type telling struct {
	stopped bool   // a stub leads back from what is told
	shown   int    // how many pieces and characters there were
	bytes   []byte // of memory: as long as a step goes on to tell, nothing is written there
	more    bool   // there is a spot where it goes on
	next    spot
}

// pieceAt: the piece at a place of a text, and the place behind it. What a plain text tells stands there alone: for it memory need not be copied.
func (m *Machine) pieceAt(at api.TextAt) (api.Piece, api.TextAt, api.Errno) {
	if at.Kind == api.TextPacked {
		if m.telling.bytes == nil {
			m.telling.bytes = m.mem.Bytes()
		}
		return text.Next(m.telling.bytes, m.table, at)
	}
	here := api.TextAt{Kind: at.Kind, Bit: at.Bit}
	p, behind, e := text.Next(m.bytesAt(at.Addr, wordBytes), m.table, here)
	behind.Addr += at.Addr
	return p, behind, e
}

// doStream: instructions that tell something.
func (m *Machine) doStream(w work) api.Errno {
	a := w.l[0]
	switch w.name {
	case "streamchar":
		return m.tellChar(lowest(a, 1))
	case "streamunichar":
		return m.tellChar(a)
	case "streamnum":
		m.tellNext(spot{number: true, x: a})
		return api.OK
	}
	return m.tellText(a)
}

// tellChar: a character.
func (m *Machine) tellChar(c uint32) api.Errno {
	if m.mode == modeCall {
		return m.call(m.rock, place{kind: toNowhere}, c)
	}
	m.put(c)
	return api.OK
}

// put: characters, where they are put.
func (m *Machine) put(l ...uint32) {
	if m.mode != modePut {
		return
	}
	for _, c := range l {
		m.world.Put(c)
	}
}

// tellText: the text at an address goes on.
func (m *Machine) tellText(addr uint32) api.Errno {
	at, e := text.Begin(m.bytesAt(addr, 1), 0)
	if e != api.OK {
		return e
	}
	at.Addr += addr
	m.tellNext(spot{at: at})
	return api.OK
}

// tellNext: it goes on at a spot, as soon as tellOn comes to it: one text that leads to another nests no calls here.
func (m *Machine) tellNext(s spot) {
	m.telling.more, m.telling.next = true, s
}

// tellOn: it goes on as long as there is a spot.
func (m *Machine) tellOn() api.Errno {
	for m.telling.more {
		m.telling.more = false
		if e := m.tellAt(m.telling.next); e != api.OK {
			return e
		}
	}
	return api.OK
}

// tellAt: one piece.
func (m *Machine) tellAt(s spot) api.Errno {
	if s.number {
		return m.tellDigits(s)
	}
	p, behind, e := m.pieceAt(s.at)
	if e != api.OK {
		return e
	}
	m.telling.shown += 1 + len(p.Chars)
	if m.telling.shown > api.MaxShow {
		return api.FatalText
	}
	switch p.Kind {
	case api.PieceEnd:
		return m.tellEnd()
	case api.PieceRef:
		return m.tellRef(p, spot{at: behind})
	}
	stopped, e := m.tellChars(s, p.Chars)
	if stopped || e != api.OK {
		return e
	}
	m.tellNext(spot{at: behind})
	return api.OK
}

// tellDigits: a number's digits.
func (m *Machine) tellDigits(s spot) api.Errno {
	var digits []uint32
	for _, c := range word.Decimal(s.x) {
		digits = append(digits, uint32(c))
	}
	stopped, e := m.tellChars(s, digits)
	if stopped || e != api.OK {
		return e
	}
	return m.tellEnd()
}

// tellChars: the characters of a spot's piece from its k on; in the mode that calls one of them, for which it stops.
func (m *Machine) tellChars(s spot, l []uint32) (stopped bool, e api.Errno) {
	// A stub that a game laid may tell more characters than there are.
	if s.k >= uint32(len(l)) {
		return false, api.OK
	}
	if m.mode != modeCall {
		m.put(l[s.k:]...)
		return false, api.OK
	}
	c := l[s.k]
	s.k++
	if e := m.stop(s); e != api.OK {
		return false, e
	}
	return true, m.enter(m.rock, c)
}

// tellRef: what a reference leads to; behind it it goes on at a spot.
func (m *Machine) tellRef(p api.Piece, behind spot) api.Errno {
	kind, e := m.mem.Read(p.Addr, 1)
	if e != api.OK {
		return e
	}
	switch kind {
	case api.TextBytes, api.TextPacked, api.TextWords:
		if e := m.stop(behind); e != api.OK {
			return e
		}
		return m.tellText(p.Addr)
	case api.FuncStack, api.FuncLocals:
		if e := m.stop(behind); e != api.OK {
			return e
		}
		return m.enter(p.Addr, p.Args...)
	}
	return api.FatalText
}

// stop: stubs that lead to a spot, and, below the first one, back to the instruction's end.
func (m *Machine) stop(s spot) api.Errno {
	if !m.telling.stopped {
		if e := m.stk.Stub(stubDone, 0, m.pc); e != api.OK {
			return e
		}
		m.telling.stopped = true
	}
	if s.number {
		return m.stk.Stub(stubNumber, s.k, s.x)
	}
	return m.stk.Stub(stubKind(s.at.Kind), bitsPerByte*s.k+s.at.Bit, s.at.Addr)
}

// stubKind: the kind of the stubs for texts of a kind.
func stubKind(kind int) uint32 {
	switch kind {
	case api.TextBytes:
		return stubBytes
	case api.TextWords:
		return stubWords
	}
	return stubPacked
}

// tellEnd: a text or a number is told.
func (m *Machine) tellEnd() api.Errno {
	if !m.telling.stopped {
		return api.OK
	}
	kind, addr, pc, e := m.stk.Unstub()
	if e != api.OK {
		return e
	}
	if kind == stubDone {
		m.pc = pc
		return api.OK
	}
	return m.tellBy(kind, addr, pc)
}

// tellBy: it goes on by a stub; FatalFrame, if it is none for what is told.
func (m *Machine) tellBy(kind, addr, pc uint32) api.Errno {
	m.telling.stopped = true
	s := spot{k: addr / bitsPerByte, at: api.TextAt{Addr: pc, Bit: addr % bitsPerByte}}
	switch kind {
	case stubPacked:
		s.at.Kind = api.TextPacked
	case stubBytes:
		s.at.Kind = api.TextBytes
	case stubWords:
		s.at.Kind = api.TextWords
	case stubNumber:
		s = spot{number: true, x: pc, k: addr}
	default:
		return api.FatalFrame
	}
	m.tellNext(s)
	return api.OK
}
