package exec

import (
	"grotto/api"
	"grotto/word"
)

// reckon: what an instruction comes to out of one or two words.
func reckon(name string, a, b uint32) (uint32, api.Errno) {
	switch name {
	case "div":
		return word.Div(a, b)
	case "mod":
		return word.Mod(a, b)
	}
	return reckoned(name, a, b), api.OK
}

// reckoned: what it comes to where there is no error.
func reckoned(name string, a, b uint32) uint32 {
	switch name {
	case "add":
		return a + b
	case "sub":
		return a - b
	case "mul":
		return a * b
	case "neg":
		return -a
	case "bitand":
		return a & b
	case "bitor":
		return a | b
	case "bitxor":
		return a ^ b
	case "bitnot":
		return ^a
	case "shiftl":
		return word.Shl(a, b)
	case "ushiftr":
		return word.Shr(a, b)
	}
	return word.Sar(a, b)
}

// doJump: branches.
func (m *Machine) doJump(w work) api.Errno {
	switch w.name {
	case "jump":
		return m.branch(w.l[0])
	case "jz":
		return m.branchIf(w.l[0] == 0, w.l[1])
	case "jnz":
		return m.branchIf(w.l[0] != 0, w.l[1])
	}
	return m.branchIf(word.Holds(condition(w.name), w.l[0], w.l[1]), w.l[2])
}

// condition: what two words are asked by a branch.
func condition(name string) int {
	switch name {
	case "jeq":
		return api.CondEq
	case "jne":
		return api.CondNe
	case "jlt":
		return api.CondLt
	case "jge":
		return api.CondGe
	case "jgt":
		return api.CondGt
	case "jle":
		return api.CondLe
	case "jltu":
		return api.CondLtu
	case "jgeu":
		return api.CondGeu
	case "jgtu":
		return api.CondGtu
	}
	return api.CondLeu
}

// doRandom: the chance.
func (m *Machine) doRandom(w work) api.Errno {
	a := w.l[0]
	if w.name == "setrandom" {
		m.chance = a
		if a == 0 {
			m.chance = firstChance
		}
		return api.OK
	}
	m.chance ^= m.chance << 13
	m.chance ^= m.chance >> 17
	m.chance ^= m.chance << 5
	return m.answer(w, within(m.chance, a))
}

// within: x as a number from 0 on below a, or, if a is below 0, from 0 on down above a.
func within(x, a uint32) uint32 {
	switch {
	case a == 0:
		return x
	case int32(a) > 0:
		return x % a
	}
	return -(x % -a)
}
