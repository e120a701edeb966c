package accel

import (
	"grotto/api"
	"grotto/memory"
)

// The functions, by what they do; those from 8 on do the same as those from 2 on, over objects with other attributes.
const (
	doRegion = 1
	doTab    = 2
	doAddr   = 3
	doLen    = 4
	doOf     = 5
	doValue  = 6
	doHas    = 7

	firstWide = 8
	wideStep  = firstWide - doTab
)

// What lies at an address.
const (
	nowhere   = 0
	isObject  = 1
	isRoutine = 2
	isText    = 3
)

// What a game's memory says of these by the first byte.
const (
	firstThing  = 36
	byteObject  = 0x70
	afterObject = 0x80
	byteRoutine = 0xc0
	byteText    = 0xe0
)

// Of the functions up to 7: how many bytes of attributes an object has.
const usualAttrs = 7

// Where an object, and a property in its table, tell what.
const (
	atClass    = 13
	wordsAhead = 3
	wordSize   = 4
	halfSize   = 2
	byteSize   = 1

	keySize  = 2
	propSize = 10
	propLen  = 2
	propAddr = 4
	propFlag = 9
)

// classProps: that many properties from Indiv on are those of a class itself.
const classProps = 8

// halt is what ends a function at once: a slip, or an error. That of zero ends nothing.
type halt struct {
	slip int
	e    api.Errno
}

// ends: is there a slip, or an error?
func (h halt) ends() bool {
	return h != halt{}
}

// look is what a function looks into, and what it knows of objects.
type look struct {
	m      *memory.Memory
	params []uint32
	attrs  uint32
}

// lookFor: how function n looks into a memory.
func lookFor(m *memory.Memory, params []uint32, n uint32) look {
	if n >= firstWide {
		return look{m: m, params: params, attrs: params[api.ParamAttrs]}
	}
	return look{m: m, params: params, attrs: usualAttrs}
}

// kindOf: what function n does.
func kindOf(n uint32) uint32 {
	if n >= firstWide {
		return n - wideStep
	}
	return n
}

// do: what a kind of function comes to.
func (l look) do(kind, a, b uint32) (uint32, halt) {
	switch kind {
	case doRegion:
		return l.region(a), halt{}
	case doTab:
		return l.tab(a, b)
	case doAddr:
		return l.addr(a, b)
	case doLen:
		return l.length(a, b)
	case doOf:
		return l.of(a, b)
	case doValue:
		return l.value(a, b)
	case doHas:
		return l.has(a, b)
	}
	return 0, halt{}
}

// region: what lies at an address.
func (l look) region(a uint32) uint32 {
	if a < firstThing || a >= l.m.Size() {
		return nowhere
	}
	// A byte below Size is there: no error comes.
	x, _ := l.m.Read(a, byteSize)
	switch {
	case x >= byteText:
		return isText
	case x >= byteRoutine:
		return isRoutine
	case x >= byteObject && x < afterObject && a >= l.m.Header().RamStart:
		return isObject
	}
	return nowhere
}

// inClass: does an object tell that it is a class?
func (l look) inClass(a uint32) (bool, halt) {
	x, h := l.read(a+atClass+l.attrs, wordSize)
	return x == l.params[api.ParamClass] && !h.ends(), h
}

// isClassProp: is a property one of those of a class itself?
func (l look) isClassProp(b uint32) bool {
	indiv := l.params[api.ParamIndiv]
	// Both bounds are asked: Indiv and 8 together may wrap round, and there is none then.
	return b >= indiv && b < indiv+classProps
}

// read: the number of n bytes at an address.
func (l look) read(addr uint32, n int) (uint32, halt) {
	x, e := l.m.Read(addr, n)
	return x, halt{e: e}
}

// one: 1, if so; else 0.
func one(so bool) uint32 {
	if so {
		return 1
	}
	return 0
}
