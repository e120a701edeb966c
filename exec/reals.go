package exec

import (
	"grotto/api"
	"grotto/reals"
)

// realOp: what is reckoned of singles or doubles.
func realOp(name string) int {
	switch name {
	case "fadd", "dadd":
		return api.RealAdd
	case "fsub", "dsub":
		return api.RealSub
	case "fmul", "dmul":
		return api.RealMul
	case "fdiv", "ddiv":
		return api.RealDiv
	case "dmodr":
		return api.RealRest
	case "dmodq":
		return api.RealQuo
	case "sqrt", "dsqrt":
		return api.RealSqrt
	case "ceil", "dceil":
		return api.RealCeil
	}
	return api.RealFloor
}

// realCondition: what singles or doubles are asked by a branch.
func realCondition(name string) int {
	switch name {
	case "jfeq", "jdeq":
		return api.IsNear
	case "jfne", "jdne":
		return api.IsFar
	case "jflt", "jdlt":
		return api.IsLt
	case "jfle", "jdle":
		return api.IsLe
	case "jfgt", "jdgt":
		return api.IsGt
	case "jfge", "jdge":
		return api.IsGe
	case "jisnan", "jdisnan":
		return api.IsNaN
	}
	return api.IsInf
}

// doSingle: what is reckoned of singles.
func (m *Machine) doSingle(w work) api.Errno {
	a, b := w.l[0], w.l[1]
	switch w.name {
	case "numtof":
		return m.answer(w, reals.SingleOf(a))
	case "ftonumz":
		return m.answer(w, reals.SingleInt(a, false))
	case "ftonumn":
		return m.answer(w, reals.SingleInt(a, true))
	case "fmod":
		return m.answerMod(w)
	}
	x, e := reals.Single(realOp(w.name), a, b)
	return m.answerUnless(e, w, x)
}

// answerMod: what is left, and the quotient.
func (m *Machine) answerMod(w work) api.Errno {
	rest, e := reals.Single(api.RealRest, w.l[0], w.l[1])
	if e != api.OK {
		return e
	}
	quo, e := reals.Single(api.RealQuo, w.l[0], w.l[1])
	if e != api.OK {
		return e
	}
	return m.answer(w, rest, quo)
}

// doSingleJump: branches by singles.
func (m *Machine) doSingleJump(w work) api.Errno {
	l := w.l
	switch w.name {
	case "jfeq", "jfne":
		return m.branchIf(reals.SingleHolds(realCondition(w.name), l[0], l[1], l[2]), l[3])
	case "jisnan", "jisinf":
		return m.branchIf(reals.SingleHolds(realCondition(w.name), l[0], 0, 0), l[1])
	}
	return m.branchIf(reals.SingleHolds(realCondition(w.name), l[0], l[1], 0), l[2])
}

// answerDouble: the two words of a double.
func (m *Machine) answerDouble(w work, x uint64) api.Errno {
	hi, lo := reals.Split(x)
	return m.answer(w, hi, lo)
}

// doDouble: what is reckoned of doubles.
func (m *Machine) doDouble(w work) api.Errno {
	a, b := reals.Join(w.l[0], w.l[1]), reals.Join(w.l[2], w.l[3])
	switch w.name {
	case "numtod":
		return m.answerDouble(w, reals.DoubleOf(w.l[0]))
	case "dtonumz":
		return m.answer(w, reals.DoubleInt(a, false))
	case "dtonumn":
		return m.answer(w, reals.DoubleInt(a, true))
	case "ftod":
		return m.answerDouble(w, reals.Widen(w.l[0]))
	case "dtof":
		return m.answer(w, reals.Narrow(a))
	}
	x, e := reals.Double(realOp(w.name), a, b)
	if e != api.OK {
		return e
	}
	return m.answerDouble(w, x)
}

// doDoubleJump: branches by doubles.
func (m *Machine) doDoubleJump(w work) api.Errno {
	l := w.l
	a, b, tol := reals.Join(l[0], l[1]), reals.Join(l[2], l[3]), reals.Join(l[4], l[5])
	switch w.name {
	case "jdeq", "jdne":
		return m.branchIf(reals.DoubleHolds(realCondition(w.name), a, b, tol), l[6])
	case "jdisnan", "jdisinf":
		return m.branchIf(reals.DoubleHolds(realCondition(w.name), a, 0, 0), l[2])
	}
	return m.branchIf(reals.DoubleHolds(realCondition(w.name), a, b, 0), l[4])
}
