package code

import (
	"grotto/api"
	"grotto/word"
)

// What is added to a number that is laid in two bytes, in four.
const (
	inTwo  = 0x8000
	inFour = 0xc0000000
)

// Of a byte with two modes the first one has the lower bits.
const (
	modeBits = 4
	modeMask = 0xf
)

// rowOf: the instruction with that number.
func rowOf(op uint32) (row, bool) {
	for _, r := range instructions() {
		if r.op == op {
			return r, true
		}
	}
	return row{}, false
}

// width: how many bytes an operand of that mode has, and whether there is such a mode.
func width(mode int) (n int, ok bool) {
	switch mode {
	case api.ModeZero, api.ModeStack:
		return 0, true
	case api.ModeConst1, api.ModeAddr1, api.ModeLocal1, api.ModeRam1:
		return 1, true
	case api.ModeConst2, api.ModeAddr2, api.ModeLocal2, api.ModeRam2:
		return 2, true
	case api.ModeConst4, api.ModeAddr4, api.ModeLocal4, api.ModeRam4:
		return 4, true
	}
	return 0, false
}

// isConst: is it a constant's mode?
func isConst(mode int) bool {
	return mode == api.ModeConst1 || mode == api.ModeConst2 || mode == api.ModeConst4
}

// mayBe: may an operand with that letter have that mode?
func mayBe(letter byte, mode int) bool {
	_, ok := width(mode)
	return ok && !(letter == stored && isConst(mode))
}

// number: the number that one, two or four bytes say; of none 0.
func number(b []byte) uint32 {
	x, _ := word.Be(b, 0, len(b))
	return x
}

// told: the Value that these bytes tell, which are as many as the mode has.
func told(mode int, b []byte) uint32 {
	if isConst(mode) {
		return word.Extend(number(b), len(b))
	}
	return number(b)
}

// valueBytes: an operand's Value, in as many bytes as its mode has.
func valueBytes(a api.Operand) []byte {
	n, _ := width(a.Mode)
	return word.Put(a.Value, n)
}

// opForm: in how many bytes a number is laid whose first byte is that one, and what is added to it there.
func opForm(first uint32) (n int, mark uint32) {
	switch {
	case first < 0x80:
		return 1, 0
	case first < 0xc0:
		return 2, inTwo
	}
	return 4, inFour
}

// opBytes: the number of one of the instructions, in as few bytes as may be: none of them needs four.
func opBytes(op uint32) []byte {
	if op < 0x80 {
		return word.Put(op, 1)
	}
	return word.Put(op+inTwo, 2)
}

// modesSize: how many bytes the modes of n operands have.
func modesSize(n int) int {
	return (n + 1) / 2
}

// modeBytes: the operands' modes, laid.
func modeBytes(args []api.Operand) []byte {
	b := make([]byte, modesSize(len(args)))
	for i, a := range args {
		b[i/2] |= byte(a.Mode << (i % 2 * modeBits))
	}
	return b
}

// upToZeroes: the pairs up to the first 0 0, with it; none, if there is no such pair.
func upToZeroes(b []byte) []byte {
	for i := 0; i+1 < len(b); i += 2 {
		if b[i] == 0 && b[i+1] == 0 {
			return b[:i+2]
		}
	}
	return nil
}

// reader is bytes that are read one behind the other, and where the next one lies.
type reader struct {
	b  []byte
	at int
}

// take: the next n bytes.
func (r *reader) take(n int) ([]byte, api.Errno) {
	// Held against the room that is left: at + n could wrap round.
	if n > len(r.b)-r.at {
		return nil, api.FatalRead
	}
	r.at += n
	return r.b[r.at-n : r.at], api.OK
}

// op: an instruction's number, whose first byte tells in how many it is laid.
func (r *reader) op() (uint32, api.Errno) {
	first, e := word.Be(r.b, r.at, 1)
	if e != api.OK {
		return 0, api.FatalRead
	}
	n, mark := opForm(first)
	b, e := r.take(n)
	if e != api.OK {
		return 0, e
	}
	return number(b) - mark, api.OK
}

// modes: a mode for each letter.
func (r *reader) modes(letters string) ([]int, api.Errno) {
	b, e := r.take(modesSize(len(letters)))
	if e != api.OK {
		return nil, e
	}
	l := make([]int, len(letters))
	for i := range l {
		l[i] = int(b[i/2] >> (i % 2 * modeBits) & modeMask)
		if !mayBe(letters[i], l[i]) {
			return nil, api.FatalMode
		}
	}
	return l, api.OK
}

// args: an operand for each letter.
func (r *reader) args(letters string) ([]api.Operand, api.Errno) {
	modes, e := r.modes(letters)
	if e != api.OK {
		return nil, e
	}
	l := make([]api.Operand, len(modes))
	for i, mode := range modes {
		n, _ := width(mode)
		b, e := r.take(n)
		if e != api.OK {
			return nil, e
		}
		l[i] = api.Operand{Mode: mode, Value: told(mode, b)}
	}
	return l, api.OK
}
