package accel

import (
	"testing"

	"grotto/api"
)

// P18.5 Value

// defaults: a ground with other defaults for all properties below Indiv.
func defaults() *ground {
	g := openGround()
	for b := range uint32(theIndiv + 1) {
		g.put(theDefaults+4*b, 4, 9000+b)
	}
	return g
}

func TestValue(t *testing.T) {
	m := defaults().memory(t)
	for _, n := range both(6) {
		for b, want := range map[uint32]uint32{
			2: theObject, 3: 103, 5: 105, 70: 170, 71: 271,
			1: 9001, 4: 9004, 6: 9006, 63: 9063,
		} {
			expectDo(t, m, usual(), n, args(thing, b), want)
		}
		for _, b := range []uint32{0, 64, 65, 69, 72, 65535} {
			expectSlip(t, m, usual(), n, args(thing, b), api.SlipRead)
		}
	}
}

func TestValueOfAClass(t *testing.T) {
	g := defaults()
	m := g.memory(t)
	// What is not seen of it is told by default.
	for b, want := range map[uint32]uint32{3: 9003, 5: 9005, 63: 9063, 1: 9001} {
		expectDo(t, m, usual(), 6, args(kind, b), want)
	}
	expectSlip(t, m, usual(), 6, args(kind, 72), api.SlipRead)
	g.put(504, 4, 0x12345678)
	expectDo(t, g.memory(t), usual(), 6, args(kind, 64), 0x12345678)
	// What the object has from a class is told as its own.
	const own = 1 << 16
	g.put(502, 4, 502502)
	expectDo(t, g.memory(t), usual(), 6, args(thing, 5*own+1), 502502)
	expectSlip(t, g.memory(t), usual(), 6, args(thing, 6*own+1), api.SlipRead)
	// Of what the object has not from there, the default is one far off, if Indiv is greater still.
	b := uint32(6*own + 1)
	p := with(with(usual(), api.ParamIndiv, b+1), api.ParamDefaults, theDefaults-4*b)
	expectDo(t, g.memory(t), p, 6, args(thing, b), 9000)
	expectSlip(t, g.memory(t), with(p, api.ParamIndiv, b), 6, args(thing, b), api.SlipRead)
}

func TestValueAtIndiv(t *testing.T) {
	const bare = 1300
	g := defaults()
	g.object(bare, 7, 0, 0)
	m := g.memory(t)
	for _, indiv := range []uint32{0, 1, 2, 3, 41, 64, 65} {
		p := with(usual(), api.ParamIndiv, indiv)
		for b := range uint32(66) {
			if b > 0 && b < indiv {
				expectDo(t, m, p, 6, args(bare, b), 9000+b)
			} else {
				expectSlip(t, m, p, 6, args(bare, b), api.SlipRead)
			}
		}
		expectSlip(t, m, p, 6, args(bare, 65535), api.SlipRead)
	}
}

func TestValueWithoutNumbers(t *testing.T) {
	// A property whose numbers lie at 0 is told by default.
	g := defaults()
	g.table(thingTable, row{key: 5, count: 1, at: 0}, row{key: 64, count: 1, at: 0})
	m := g.memory(t)
	expectDo(t, m, usual(), 6, args(thing, 5), 9005)
	expectSlip(t, m, usual(), 6, args(thing, 64), api.SlipRead)
	// One that has none is read all the same.
	g.table(thingTable, row{key: 5, count: 0, at: numbers + 4})
	expectDo(t, g.memory(t), usual(), 6, args(thing, 5), kind)
}

func TestValueThatIsNotThere(t *testing.T) {
	for _, at := range []uint32{groundSize - 3, groundSize, 1 << 31, top - 3, top} {
		g := defaults()
		g.table(thingTable, row{key: 5, count: 1, at: at})
		expectError(t, g.memory(t), usual(), 6, args(thing, 5), api.FatalRead)
		p := with(usual(), api.ParamDefaults, at-4*4)
		expectError(t, g.memory(t), p, 6, args(thing, 4), api.FatalRead)
		expectSlip(t, g.memory(t), p, 6, args(thing, 64), api.SlipRead)
	}
	g := defaults()
	g.table(thingTable, row{key: 5, count: 1, at: groundSize - 4})
	g.put(groundSize-4, 4, 55)
	expectDo(t, g.memory(t), usual(), 6, args(thing, 5), 55)
	expectDo(t, g.memory(t), with(usual(), api.ParamDefaults, groundSize-20), 6, args(thing, 4), 55)
}

func TestDefaultsPastTheLastAddress(t *testing.T) {
	m := defaults().memory(t)
	p := with(usual(), api.ParamIndiv, top)
	for _, b := range []uint32{20, 26, 50, 1000, 65535} {
		p[api.ParamDefaults] = theDefaults + 8 - 4*b
		expectDo(t, m, p, 6, args(thing, b), 9002)
	}
	// 4 times a property passes 2^32 by itself, if it is a class's that the class has not.
	p = with(p, api.ParamDefaults, theDefaults-4)
	for _, b := range []uint32{1<<30 + 1, 1<<31 + 1, 3<<30 + 1} {
		expectDo(t, m, p, 6, args(thing, b), 9000)
	}
}

func TestValueOfWhatSlips(t *testing.T) {
	m := defaults().memory(t)
	const own = 1 << 16
	for _, b := range []uint32{0, 1, 5, 64, 65535} {
		expectSlip(t, m, usual(), 6, args(0, b), api.SlipFind)
		expectSlip(t, m, usual(), 6, args(groundSize, b), api.SlipFind)
	}
	expectSlip(t, m, usual(), 6, args(thing, own*5+3), api.SlipClass)
	expectSlip(t, m, with(usual(), api.ParamIndiv, top), 6, args(thing, own*5+3), api.SlipClass)
	// What is no object is of no class: there is nothing to be read.
	expectSlip(t, m, usual(), 6, args(0, own*5+1), api.SlipRead)
	// What is not there goes ahead of a slip that would come later.
	p := with(usual(), api.ParamSelf, groundSize)
	expectError(t, m, p, 6, args(thing, 5), api.FatalRead)
	expectError(t, m, p, 6, args(thing, 70), api.FatalRead)
	expectError(t, m, with(usual(), api.ParamClasses, groundSize), 6, args(0, own*5+1), api.FatalRead)
}

// P18.5 Has

func TestHasOfTextsAndRoutines(t *testing.T) {
	g := openGround()
	g.put(500, 1, 0xe0, 0xff, 0xc0, 0xdf)
	m := g.memory(t)
	for _, n := range both(7) {
		for _, indiv := range []uint32{0, 1, 64, 65530, 1 << 31, top - 7, top - 6, top - 5, top - 4, top} {
			p := with(usual(), api.ParamIndiv, indiv)
			for i := range uint32(12) {
				b := indiv + i - 2
				routine, text := uint32(0), uint32(0)
				if i == 7 {
					routine = 1
				}
				if i == 8 || i == 9 {
					text = 1
				}
				expectDo(t, m, p, n, args(500, b), text)
				expectDo(t, m, p, n, args(501, b), text)
				expectDo(t, m, p, n, args(502, b), routine)
				expectDo(t, m, p, n, args(503, b), routine)
			}
		}
	}
}

func TestHasOfNeither(t *testing.T) {
	g := openGround()
	g.put(500, 1, 0x6f, 0x80, 0xbf)
	g.put(100, 1, 0x70)
	m := g.memory(t)
	for _, n := range both(7) {
		for _, a := range []uint32{0, 35, 36, 100, 255, 500, 501, 502, groundSize, top} {
			for _, b := range []uint32{0, 5, 64, 69, 70, 71, 65535, 5<<16 + 3, top} {
				expectDo(t, m, usual(), n, args(a, b), 0)
			}
		}
	}
}

func TestHas(t *testing.T) {
	m := openGround().memory(t)
	for _, n := range both(7) {
		for b, want := range map[uint32]uint32{
			2: 1, 3: 1, 5: 1, 70: 1, 71: 1, 0: 0, 1: 0, 4: 0, 6: 0, 63: 0, 64: 0, 69: 0, 72: 0, 65535: 0,
			5<<16 + 1: 1, 6<<16 + 1: 0, 72<<16 + 1: 1, 5<<16 + 2: 0,
		} {
			expectDo(t, m, usual(), n, args(thing, b), want)
		}
		expectSlip(t, m, usual(), n, args(thing, 5<<16+3), api.SlipClass)
		// A class has all that are a class's, whether they are in its table or not; and what else it has is not seen.
		for b, want := range map[uint32]uint32{3: 0, 5: 0, 63: 0, 64: 1, 65: 1, 66: 1, 67: 1, 68: 1, 69: 1, 70: 1, 71: 1, 72: 0, 73: 0, 0: 0, 65535: 0} {
			expectDo(t, m, usual(), n, args(kind, b), want)
		}
	}
}

func TestHasWithIndivSoGreat(t *testing.T) {
	m := openGround().memory(t)
	// Up to 2^32 - 9 there are eight; from there on Indiv + 8 is a small number, and there are none.
	for _, c := range []struct{ indiv, b, want uint32 }{
		{1000, 1000, 1}, {1000, 1007, 1}, {1000, 1008, 0}, {1000, 999, 0},
		{0, 0, 1}, {0, 7, 1}, {0, 8, 0}, {65533, 65535, 1},
		{top - 8, top - 8, 1}, {top - 8, top - 1, 1},
	} {
		p := with(usual(), api.ParamIndiv, c.indiv)
		expectDo(t, m, p, 7, args(kind, c.b), c.want)
	}
	g := openGround()
	g.put(theClasses, 4, kind)
	m = g.memory(t)
	for _, indiv := range []uint32{top - 7, top - 6, top - 1, top} {
		for b := indiv; b != 0; b++ {
			// The lower two bytes tell a class: what does not name it has nothing from it.
			p := with(usual(), api.ParamIndiv, indiv)
			p[api.ParamClasses] = theClasses - 4*(b%65536)
			expectDo(t, m, p, 7, args(kind, b), 0)
			p[api.ParamClasses] = 1 << 31
			expectError(t, m, p, 7, args(kind, b), api.FatalRead)
		}
		expectDo(t, m, with(usual(), api.ParamIndiv, indiv), 7, args(kind, 0), 0)
	}
}

func TestHasWithoutNumbers(t *testing.T) {
	g := openGround()
	g.table(thingTable, row{key: 5, count: 1, at: 0}, row{key: 7, count: 0, at: 1}, row{key: 9, count: 0, at: top})
	m := g.memory(t)
	for b, want := range map[uint32]uint32{5: 0, 7: 1, 9: 1} {
		expectDo(t, m, usual(), 7, args(thing, b), want)
	}
}

func TestHasThatIsNotThere(t *testing.T) {
	const last = groundSize - 20
	g := openGround()
	g.object(last, 7, thingTable, 0)
	m := g.memory(t)
	for _, b := range []uint32{64, 65, 71, 5} {
		expectError(t, m, usual(), 7, args(last, b), api.FatalRead)
	}
	for _, b := range []uint32{63, 72, 6} {
		expectDo(t, m, usual(), 7, args(last, b), 0)
	}
	g = openGround()
	g.put(thing+16, 4, top)
	g.put(kind+16, 4, top)
	m = g.memory(t)
	expectError(t, m, usual(), 7, args(thing, 5), api.FatalRead)
	expectError(t, m, usual(), 7, args(thing, 64), api.FatalRead)
	expectError(t, m, usual(), 7, args(kind, 5), api.FatalRead)
	// A class's table is not looked at for what every class has.
	expectDo(t, m, usual(), 7, args(kind, 64), 1)
}
