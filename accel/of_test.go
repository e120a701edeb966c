package accel

import (
	"testing"

	"grotto/api"
)

// P18.4

// both: the two functions that do the same with Attrs 7.
func both(n uint32) []uint32 { return []uint32{n, n + 6} }

func TestOfTexts(t *testing.T) {
	g := openGround()
	g.put(500, 1, 0xe0, 0xff)
	m := g.memory(t)
	for _, n := range both(5) {
		for b, want := range map[uint32]uint32{theString: 1, theRoutine: 0, theObject: 0, theClass: 0, kind: 0, 0: 0, 9: 0, top: 0} {
			expectDo(t, m, usual(), n, args(500, b), want)
			expectDo(t, m, usual(), n, args(501, b), want)
		}
	}
	// It is one even if String is one of the others, too.
	expectDo(t, m, with(usual(), api.ParamString, theClass), 5, args(500, theClass), 1)
	expectDo(t, m, with(usual(), api.ParamString, 0), 5, args(500, 0), 1)
	expectDo(t, m, with(usual(), api.ParamString, 0), 5, args(500), 1)
}

func TestOfRoutines(t *testing.T) {
	g := openGround()
	g.put(500, 1, 0xc0, 0xdf)
	m := g.memory(t)
	for _, n := range both(5) {
		for b, want := range map[uint32]uint32{theRoutine: 1, theString: 0, theObject: 0, theClass: 0, kind: 0, 0: 0, 9: 0, top: 0} {
			expectDo(t, m, usual(), n, args(500, b), want)
			expectDo(t, m, usual(), n, args(501, b), want)
		}
	}
	expectDo(t, m, with(usual(), api.ParamRoutine, theClass), 5, args(500, theClass), 1)
}

func TestOfNeither(t *testing.T) {
	g := openGround()
	g.put(500, 1, 0x6f, 0x80, 0xbf)
	g.put(100, 1, 0x70)
	m := g.memory(t)
	for _, n := range both(5) {
		for _, a := range []uint32{0, 35, 36, 100, 255, 500, 501, 502, groundSize, top} {
			for _, b := range []uint32{0, theClass, theObject, theRoutine, theString, kind, thing, 9, top, a} {
				expectDo(t, m, usual(), n, args(a, b), 0)
			}
		}
	}
}

func TestOfClassAndObject(t *testing.T) {
	// A class is what says so, and the four, whatever these say.
	for _, says := range []uint32{theClass, theClass - 1, 0, top} {
		g := openGround()
		for _, a := range []uint32{theClass, theObject, theRoutine, theString} {
			g.object(a, 7, 0, says)
		}
		m := g.memory(t)
		for _, n := range both(5) {
			for _, a := range []uint32{theClass, theObject, theRoutine, theString, kind} {
				expectDo(t, m, usual(), n, args(a, theClass), 1)
				expectDo(t, m, usual(), n, args(a, theObject), 0)
			}
			expectDo(t, m, usual(), n, args(thing, theClass), 0)
			expectDo(t, m, usual(), n, args(thing, theObject), 1)
		}
	}
}

func TestOfEachOfTheFour(t *testing.T) {
	// Each of them counts by itself: the three others lie elsewhere.
	g := openGround()
	m := g.memory(t)
	for _, i := range []int{api.ParamClass, api.ParamObject, api.ParamRoutine, api.ParamString} {
		p := with(usual(), i, thing)
		expectDo(t, m, p, 5, args(thing, p[api.ParamClass]), 1)
		if i != api.ParamClass {
			expectDo(t, m, p, 5, args(thing, p[api.ParamObject]), 0)
		}
	}
	for _, i := range []int{api.ParamClasses, api.ParamIndiv, api.ParamSelf, api.ParamDefaults} {
		p := with(usual(), i, thing)
		expectDo(t, m, p, 5, args(thing, theClass), 0)
		expectDo(t, m, p, 5, args(thing, theObject), 1)
	}
}

func TestOfStringAndRoutine(t *testing.T) {
	m := openGround().memory(t)
	for _, n := range both(5) {
		for _, a := range []uint32{thing, kind, theClass, theObject, theRoutine, theString} {
			expectDo(t, m, usual(), n, args(a, theString), 0)
			expectDo(t, m, usual(), n, args(a, theRoutine), 0)
		}
	}
	// Nothing is looked at: neither whether they are classes nor the object's own.
	for _, at := range []uint32{groundSize, top} {
		p := with(with(usual(), api.ParamString, at), api.ParamRoutine, at+1)
		expectDo(t, m, p, 5, args(thing, at), 0)
		expectDo(t, m, p, 5, args(thing, at+1), 0)
	}
}

func TestOfWhichComesFirst(t *testing.T) {
	// Where two of the params are alike, Class goes ahead of Object, Object of the others.
	m := openGround().memory(t)
	p := with(usual(), api.ParamObject, theClass)
	expectDo(t, m, p, 5, args(thing, theClass), 0)
	expectDo(t, m, p, 5, args(kind, theClass), 1)
	for _, i := range []int{api.ParamRoutine, api.ParamString} {
		p = with(usual(), i, theClass)
		expectDo(t, m, p, 5, args(thing, theClass), 0)
		expectDo(t, m, p, 5, args(kind, theClass), 1)
		p = with(usual(), i, theObject)
		expectDo(t, m, p, 5, args(thing, theObject), 1)
		expectDo(t, m, p, 5, args(kind, theObject), 0)
	}
}

func TestOfNamedClasses(t *testing.T) {
	const other = 1300
	g := openGround()
	g.object(other, 7, 0, theClass)
	m := g.memory(t)
	for _, n := range both(5) {
		expectDo(t, m, usual(), n, args(thing, kind), 1)
		expectDo(t, m, usual(), n, args(thing, other), 0)
		// A class names none: the property 2 is not seen of it; nor has this one any.
		expectDo(t, m, usual(), n, args(kind, kind), 0)
		expectDo(t, m, usual(), n, args(other, kind), 0)
		expectDo(t, m, usual(), n, args(theObject, kind), 0)
	}
	for count, want := range map[uint32][2]uint32{0: {0, 0}, 1: {0, 0}, 2: {1, 0}, 3: {1, 0}, 4: {1, 1}, 65535: {1, 1}} {
		g.table(thingTable, row{key: 2, count: count, at: numbers})
		g.put(numbers, 4, theObject, kind, 0, other, kind)
		m = g.memory(t)
		expectDo(t, m, usual(), 5, args(thing, kind), want[0])
		expectDo(t, m, usual(), 5, args(thing, other), want[1])
	}
}

func TestOfWhoseNamesAreNotSeen(t *testing.T) {
	g := openGround()
	g.table(thingTable, row{key: 2, count: 2, at: numbers, flag: 1})
	for self, want := range map[uint32]uint32{0: 0, kind: 0, thing: 1} {
		g.put(theSelf, 4, self)
		expectDo(t, g.memory(t), usual(), 5, args(thing, kind), want)
	}
	// A class whose property 2 is among Indiv's names its classes.
	g = openGround()
	g.object(thing, 7, thingTable, theClass)
	for indiv, want := range map[uint32]uint32{0: 1, 1: 1, 2: 1, 3: 0, 64: 0, top: 0, top - 7: 0} {
		expectDo(t, g.memory(t), with(usual(), api.ParamIndiv, indiv), 5, args(thing, kind), want)
	}
}

func TestOfARowAtZero(t *testing.T) {
	// Numbers at 0 are none, though 0 is there: 256, where RAM begins, is the third one there, and a class.
	g := openGround()
	g.object(256, 7, 0, theClass)
	g.table(thingTable, row{key: 2, count: 9, at: 0})
	expectDo(t, g.memory(t), usual(), 5, args(thing, 256), 0)
	g.table(thingTable, row{key: 2, count: 9, at: 4})
	expectDo(t, g.memory(t), usual(), 5, args(thing, 256), 1)
}

func TestOfWhatIsNoClass(t *testing.T) {
	m := openGround().memory(t)
	for _, n := range both(5) {
		for _, b := range []uint32{0, 1, 9, thing, kind + 1, kind - 1, 500, 36, groundSize - 24} {
			expectSlip(t, m, usual(), n, args(thing, b), api.SlipClass)
			expectSlip(t, m, usual(), n, args(kind, b), api.SlipClass)
		}
		for _, b := range []uint32{groundSize - 23, groundSize - 20, groundSize, 1 << 31, round - 23, round - 21} {
			expectError(t, m, usual(), n, args(thing, b), api.FatalRead)
		}
		// Its place wraps round: at 20 below the greatest words begins the memory.
		expectSlip(t, m, usual(), n, args(thing, round-20), api.SlipClass)
		expectSlip(t, m, usual(), n, args(thing, top), api.SlipClass)
	}
	// What is a class need not be an object.
	for b, at := range map[uint32]uint32{30: 50, 1301: 1321, groundSize - 24: groundSize - 4} {
		g := openGround()
		g.put(at, 4, theClass)
		g.put(numbers, 4, b)
		expectDo(t, g.memory(t), usual(), 5, args(thing, b), 1)
		expectDo(t, g.memory(t), usual(), 5, args(thing, kind), 1)
	}
}

func TestOfAClassThatBeginsPastTheLastAddress(t *testing.T) {
	// Attrs and 13 lead round to the memory's beginning, which is no class but if Class is the game's first word.
	m := openGround().memory(t)
	p := with(usual(), api.ParamClass, 0x476c756c)
	expectDo(t, m, p, 5, args(thing, round-20), 0)
	expectSlip(t, m, p, 5, args(thing, round-19), api.SlipClass)
	expectError(t, m, p, 5, args(thing, round-21), api.FatalRead)
}

func TestOfIsReadUpToTheOne(t *testing.T) {
	const other, third = 1300, 1330
	g := openGround()
	g.object(other, 7, 0, theClass)
	g.object(third, 7, 0, theClass)
	// The row begins in the memory and goes on past its end.
	g.table(thingTable, row{key: 2, count: 65535, at: groundSize - 8})
	g.put(groundSize-8, 4, other, kind)
	m := g.memory(t)
	expectDo(t, m, usual(), 5, args(thing, other), 1)
	expectDo(t, m, usual(), 5, args(thing, kind), 1)
	expectError(t, m, usual(), 5, args(thing, third), api.FatalRead)
}

func TestOfARowThatIsNotThere(t *testing.T) {
	for _, at := range []uint32{groundSize - 3, groundSize, 1 << 31, top - 3, top} {
		g := openGround()
		g.table(thingTable, row{key: 2, count: 1, at: at})
		expectError(t, g.memory(t), usual(), 5, args(thing, kind), api.FatalRead)
		g.table(thingTable, row{key: 2, count: 0, at: at})
		expectDo(t, g.memory(t), usual(), 5, args(thing, kind), 0)
	}
}

func TestOfAPropertyThatIsNotAllThere(t *testing.T) {
	for room := uint32(6); room < 16; room++ {
		g := openGround()
		at := uint32(groundSize) - room
		g.put(thing+16, 4, at)
		g.put(theSelf, 4, thing)
		g.table(at, row{key: 2, count: 2, at: numbers})
		m := g.memory(t)
		if room < 12 {
			expectError(t, m, usual(), 5, args(thing, kind), api.FatalRead)
		} else {
			expectDo(t, m, usual(), 5, args(thing, kind), 1)
		}
	}
}

func TestOfAnObjectThatEndsTheMemory(t *testing.T) {
	const last = groundSize - 20
	g := openGround()
	g.object(last, 7, 0, 0)
	m := g.memory(t)
	for _, n := range both(5) {
		// What it says of its class is looked at ahead of whether it is one of the four.
		for _, p := range [][]uint32{usual(), with(usual(), api.ParamString, last), with(usual(), api.ParamClass, last), with(usual(), api.ParamObject, last)} {
			expectError(t, m, p, n, args(last, p[api.ParamClass]), api.FatalRead)
			expectError(t, m, p, n, args(last, p[api.ParamObject]), api.FatalRead)
		}
		// It is not looked at, if it has no classes.
		expectDo(t, m, usual(), n, args(last, kind), 0)
		expectDo(t, m, usual(), n, args(last, theString), 0)
	}
	g.object(last, 7, thingTable, 0)
	expectError(t, g.memory(t), usual(), 5, args(last, kind), api.FatalRead)
}

func TestOfFirst(t *testing.T) {
	// What is no class is told ahead of what of the object is not there; what is not there of b ahead of both.
	g := openGround()
	g.put(thing+16, 4, top)
	m := g.memory(t)
	expectSlip(t, m, usual(), 5, args(thing, thing), api.SlipClass)
	expectError(t, m, usual(), 5, args(thing, kind), api.FatalRead)
	expectError(t, m, usual(), 5, args(thing, groundSize), api.FatalRead)
	expectDo(t, m, usual(), 5, args(thing, theObject), 1)
	expectDo(t, m, usual(), 5, args(thing, theRoutine), 0)
}

func TestOfAttrs(t *testing.T) {
	for _, attrs := range []uint32{3, 11, 15, 39, top, top - 28} {
		g := newGround()
		g.object(kind, attrs, 0, theClass)
		g.object(thing, attrs, thingTable, theObject)
		g.table(thingTable, row{key: 2, count: 1, at: numbers})
		g.put(numbers, 4, kind)
		m := g.memory(t)
		p := with(usual(), api.ParamAttrs, attrs)
		expectDo(t, m, p, 11, args(kind, theClass), 1)
		expectDo(t, m, p, 11, args(kind, theObject), 0)
		expectDo(t, m, p, 11, args(thing, theClass), 0)
		expectDo(t, m, p, 11, args(thing, kind), 1)
		expectSlip(t, m, p, 11, args(thing, thing), api.SlipClass)
		expectDo(t, m, p, 5, args(kind, theClass), 0)
		expectSlip(t, m, p, 5, args(thing, kind), api.SlipClass)
	}
}
