package accel

import (
	"testing"

	"grotto/api"
)

// thing: where the object lies that these tests ask; its table, and where its numbers lie.
const (
	thing      = 1000
	thingTable = 1100
	numbers    = 1400
)

// P18.2 Tab

func TestExample(t *testing.T) {
	g := newGround()
	g.put(300, 1, 0x70)
	g.put(316, 4, 400)
	g.put(400, 4, 1)
	g.put(404, 1, 0, 5, 0, 2, 0, 0, 1, 0xc2, 0, 0)
	m := g.memory(t)
	p := make([]uint32, 9)
	p[api.ParamClass] = 500
	expectDo(t, m, p, 2, args(300, 5), 404)
	expectDo(t, m, p, 3, args(300, 5), 450)
	expectDo(t, m, p, 4, args(300, 5), 8)
	expectDo(t, m, p, 3, args(300, 6), 0)
	expectSlip(t, m, p, 2, args(20, 5), api.SlipFind)
}

func TestTabOfWhatIsNoObject(t *testing.T) {
	g := newGround()
	g.object(thing, 7, thingTable, 0)
	g.table(thingTable, row{key: 5, count: 1, at: numbers})
	g.put(100, 1, 0x70)
	g.put(thing+1, 1, 0x6f, 0x80, 0xbf, 0xc0, 0xdf, 0xe0, 0xff)
	m := g.memory(t)
	for _, a := range []uint32{0, 35, 36, 100, 255, 256, groundSize, top, thing + 1, thing + 2, thing + 3, thing + 4, thing + 5, thing + 6, thing + 7} {
		for _, b := range []uint32{0, 5, 65535} {
			for _, n := range []uint32{2, 3, 4, 6, 8, 9, 10, 12} {
				expectSlip(t, m, usual(), n, args(a, b), api.SlipFind)
			}
		}
		expectSlip(t, m, usual(), 2, args(a, 65541), api.SlipFind)
	}
}

func TestTab(t *testing.T) {
	for _, c := range []struct {
		keys  []uint32
		has   []uint32
		hasnt []uint32
	}{
		{nil, nil, []uint32{0, 1, 5, 65535}},
		{[]uint32{5}, []uint32{5}, []uint32{0, 4, 6, 65535}},
		{[]uint32{0}, []uint32{0}, []uint32{1, 256, 65535}},
		{[]uint32{65535}, []uint32{65535}, []uint32{0, 255, 65534}},
		{[]uint32{5, 7}, []uint32{5, 7}, []uint32{4, 6, 8}},
		{[]uint32{5, 7, 0x105}, []uint32{5, 7, 0x105}, []uint32{0, 4, 6, 8, 0x104, 0x106, 0x505}},
		{[]uint32{1, 3, 5, 7, 9, 11, 0x8000}, []uint32{1, 3, 5, 7, 9, 11, 0x8000}, []uint32{0, 2, 4, 6, 8, 10, 12, 0x7fff, 0x8001}},
	} {
		g := newGround()
		g.object(thing, 7, thingTable, 0)
		var l []row
		for _, key := range c.keys {
			l = append(l, row{key: key, count: 3, at: numbers, flag: 1})
		}
		g.table(thingTable, l...)
		m := g.memory(t)
		for _, n := range []uint32{2, 8} {
			for i, key := range c.has {
				expectDo(t, m, usual(), n, args(thing, key), thingTable+4+10*uint32(i))
				expectDo(t, m, usual(), n, args(thing, key+3<<16), thingTable+4+10*uint32(i))
			}
			for _, key := range c.hasnt {
				expectDo(t, m, usual(), n, args(thing, key), 0)
				expectDo(t, m, usual(), n, args(thing, key|0xffff0000), 0)
			}
		}
	}
}

func TestTabWithoutATable(t *testing.T) {
	g := newGround()
	g.object(thing, 7, 0, 0)
	m := g.memory(t)
	for _, b := range []uint32{0, 1, 5, 0x476c, 65535, top} {
		expectDo(t, m, usual(), 2, args(thing, b), 0)
		expectDo(t, m, usual(), 8, args(thing, b), 0)
	}
}

func TestTabThatIsNotInOrder(t *testing.T) {
	g := newGround()
	g.object(thing, 7, thingTable, 0)
	g.table(thingTable, row{key: 9}, row{key: 5}, row{key: 1}, row{key: 5})
	m := g.memory(t)
	// The middle one is the third, then the second or the last.
	for b, at := range map[uint32]uint32{1: 2, 5: 3} {
		expectDo(t, m, usual(), 2, args(thing, b), thingTable+4+10*at)
	}
	expectDo(t, m, usual(), 2, args(thing, 9), 0)
	expectDo(t, m, usual(), 2, args(thing, 0), 0)
}

func TestTabAttrs(t *testing.T) {
	// The table's address lies behind the attributes, on the next of every four bytes.
	for attrs, at := range map[uint32]uint32{
		0: 12, 1: 12, 3: 12, 4: 16, 7: 16, 8: 20, 11: 20, 12: 24, 100: 112,
		top: 8, top - 3: 8, top - 4: 4, top - 15: round - 4, 1 << 31: 1<<31 + 12,
	} {
		g := newGround()
		g.put(thing, 1, 0x70)
		g.put(thing+at, 4, thingTable)
		g.table(thingTable, row{key: 5})
		m := g.memory(t)
		p := with(usual(), api.ParamAttrs, attrs)
		if attrs == 1<<31 {
			expectError(t, m, p, 8, args(thing, 5), api.FatalRead)
			continue
		}
		expectDo(t, m, p, 8, args(thing, 5), thingTable+4)
		want := uint32(0)
		if at == 16 {
			want = thingTable + 4
		}
		expectDo(t, m, p, 2, args(thing, 5), want)
	}
}

func TestTabThatIsNotThere(t *testing.T) {
	for a := uint32(groundSize - 24); a < groundSize; a++ {
		g := newGround()
		g.put(a, 1, 0x70)
		m := g.memory(t)
		if a <= groundSize-20 {
			expectDo(t, m, usual(), 2, args(a, 5), 0)
		} else {
			expectError(t, m, usual(), 2, args(a, 5), api.FatalRead)
		}
	}
	for _, at := range []uint32{groundSize - 4, groundSize - 3, groundSize - 1, groundSize, groundSize + 1, 1 << 31, top - 3, top} {
		g := newGround()
		g.object(thing, 7, at, 0)
		m := g.memory(t)
		if at == groundSize-4 {
			expectDo(t, m, usual(), 2, args(thing, 5), 0)
		} else {
			expectError(t, m, usual(), 2, args(thing, 5), api.FatalRead)
		}
	}
}

func TestTabWhoseRowsAreNotThere(t *testing.T) {
	for room := uint32(4); room < 16; room++ {
		g := newGround()
		at := uint32(groundSize) - room
		g.object(thing, 7, at, 0)
		g.table(at, row{key: 5, count: 3, at: numbers})
		m := g.memory(t)
		if room >= 6 {
			expectDo(t, m, usual(), 2, args(thing, 5), at+4)
			expectDo(t, m, usual(), 2, args(thing, 4), 0)
			expectDo(t, m, usual(), 2, args(thing, 6), 0)
		} else {
			expectError(t, m, usual(), 2, args(thing, 5), api.FatalRead)
		}
	}
	// The middle one is looked at first, whether there is an end to them or not.
	g := newGround()
	g.object(thing, 7, thingTable, 0)
	g.table(thingTable, row{key: 5})
	for count, e := range map[uint32]api.Errno{1: api.OK, 2: api.OK, 180: api.OK, 2000: api.FatalRead, 1 << 31: api.FatalRead} {
		g.put(thingTable, 4, count)
		if e != api.OK {
			expectError(t, g.memory(t), usual(), 2, args(thing, 5), e)
		}
	}
}

func TestTabPastTheLastAddress(t *testing.T) {
	// 10 times half of 2^32 - 1 rows is 10 short of a multiple of 2^32.
	g := newGround()
	g.object(thing, 7, thingTable, 0)
	g.put(theSelf, 4, thing)
	g.put(thingTable, 4, top)
	g.put(thingTable+4-10, 2, 5, 3)
	g.put(thingTable+4-10+4, 2, 7)
	m := g.memory(t)
	expectDo(t, m, usual(), 2, args(thing, 5), thingTable-6)
	expectDo(t, m, usual(), 3, args(thing, 5), 0x7ffff)
	expectDo(t, m, usual(), 4, args(thing, 5), 12)
	// What is found at 0 is nothing that is found.
	g = newGround()
	g.object(thing, 7, 1096, 0)
	g.put(1096, 4, round-1100/5)
	m = g.memory(t)
	for _, n := range []uint32{2, 3, 4} {
		expectDo(t, m, usual(), n, args(thing, 0x476c), 0)
	}
}

// P18.2 Prop, P18.3

// kind: where a class of these tests lies, and its table.
const (
	kind      = 1200
	kindTable = 1250
)

// openGround: an object that names two classes and has properties with other numbers; a class with properties on both sides of Indiv's; rows of classes.
func openGround() *ground {
	g := newGround()
	for _, a := range []uint32{theClass, theObject, theRoutine, theString} {
		g.object(a, 7, 0, theClass)
	}
	g.object(thing, 7, thingTable, theObject)
	g.table(thingTable,
		row{key: 2, count: 2, at: numbers},
		row{key: 3, count: 1, at: numbers + 8},
		row{key: 5, count: 2, at: numbers + 12},
		row{key: 70, count: 3, at: numbers + 20},
		row{key: 71, count: 0x4001, at: numbers + 32})
	g.put(numbers, 4, theObject, kind, 103, 105, 106, 170, 171, 172, 271)
	g.object(kind, 7, kindTable, theClass)
	g.table(kindTable,
		row{key: 3, count: 1, at: 501},
		row{key: 5, count: 2, at: 502},
		row{key: 63, count: 3, at: 503},
		row{key: 64, count: 4, at: 504},
		row{key: 68, count: 5, at: 505},
		row{key: 71, count: 6, at: 506},
		row{key: 72, count: 7, at: 507})
	g.put(theClasses, 4, 0, kind, theObject, thing, theClass)
	return g
}

func TestAddrAndLen(t *testing.T) {
	m := openGround().memory(t)
	for _, plus := range []uint32{0, 6} {
		for b, want := range map[uint32][2]uint32{
			2: {numbers, 8}, 3: {numbers + 8, 4}, 5: {numbers + 12, 8}, 70: {numbers + 20, 12}, 71: {numbers + 32, 0x10004},
			0: {0, 0}, 1: {0, 0}, 4: {0, 0}, 6: {0, 0}, 69: {0, 0}, 72: {0, 0}, 65535: {0, 0},
		} {
			expectDo(t, m, usual(), 3+plus, args(thing, b), want[0])
			expectDo(t, m, usual(), 4+plus, args(thing, b), want[1])
		}
	}
}

func TestPropOfAClass(t *testing.T) {
	// Of a class only those from Indiv to Indiv + 7 are its own.
	m := openGround().memory(t)
	for b, want := range map[uint32][2]uint32{
		3: {0, 0}, 5: {0, 0}, 63: {0, 0}, 64: {504, 16}, 68: {505, 20}, 71: {506, 24}, 72: {0, 0}, 65: {0, 0},
	} {
		expectDo(t, m, usual(), 3, args(kind, b), want[0])
		expectDo(t, m, usual(), 4, args(kind, b), want[1])
	}
	for _, indiv := range []uint32{0, 3, 4, 5, 6, 56, 57, 61, 63, 64, 65, 66, 72, 73, 65535, 1 << 31, top - 8, top - 7, top - 6, top} {
		p := with(usual(), api.ParamIndiv, indiv)
		for key, at := range map[uint32]uint32{3: 501, 5: 502, 63: 503, 64: 504, 68: 505, 71: 506, 72: 507} {
			want := uint32(0)
			if indiv <= key && key <= indiv+7 && indiv+7 > indiv {
				want = at
			}
			expectDo(t, m, p, 3, args(kind, key), want)
		}
	}
}

func TestPropOfAClassByItsOwnWord(t *testing.T) {
	// Any object that names Class at its place is a class.
	g := openGround()
	g.put(thing+20, 4, theClass)
	m := g.memory(t)
	for b, want := range map[uint32]uint32{2: 0, 3: 0, 5: 0, 70: numbers + 20, 71: numbers + 32} {
		expectDo(t, m, usual(), 3, args(thing, b), want)
	}
	p := with(usual(), api.ParamClass, theClass+1)
	expectDo(t, m, p, 3, args(thing, 3), numbers+8)
	expectDo(t, m, p, 3, args(kind, 72), 507)
}

func TestPropFromAClass(t *testing.T) {
	m := openGround().memory(t)
	const own = 1 << 16
	for b, want := range map[uint32][2]uint32{
		// The class 1 is named: all that it has is seen.
		3*own + 1: {501, 4}, 5*own + 1: {502, 8}, 63*own + 1: {503, 12}, 64*own + 1: {504, 16}, 71*own + 1: {506, 24}, 72*own + 1: {507, 28},
		2*own + 1: {0, 0}, 4*own + 1: {0, 0}, 65535*own + 1: {0, 0},
		// The class 4 is Class: an object is none of it.
		5*own + 4: {0, 0},
		// The class 2 is Object, which has no table.
		5*own + 2: {0, 0},
		// Below 65536 it is a property of the object's own.
		65535: {0, 0}, 5: {numbers + 12, 8},
	} {
		expectDo(t, m, usual(), 3, args(thing, b), want[0])
		expectDo(t, m, usual(), 4, args(thing, b), want[1])
	}
	// The class 3 is none: a slip. So is the class 0, which is the number 0.
	expectSlip(t, m, usual(), 3, args(thing, 5*own+3), api.SlipClass)
	expectSlip(t, m, usual(), 3, args(thing, 5*own), api.SlipClass)
	// What the object does not name.
	g := openGround()
	g.put(numbers+4, 4, theObject)
	m = g.memory(t)
	expectDo(t, m, usual(), 3, args(thing, 5*own+1), 0)
	expectDo(t, m, usual(), 4, args(thing, 5*own+1), 0)
}

func TestPropFromAClassOfWhatIsNoObject(t *testing.T) {
	g := openGround()
	g.put(500, 1, 0xc0, 0xe0, 0x10)
	g.put(theClasses, 4, 0, kind, theRoutine, theString)
	g.object(theRoutine, 7, kindTable, theClass)
	g.object(theString, 7, kindTable, theClass)
	m := g.memory(t)
	const own = 1 << 16
	// A routine is of Routine, a text of String: what these have is theirs too.
	for _, c := range []struct{ a, b, want uint32 }{
		{500, 5*own + 2, 502}, {500, 5*own + 3, 0}, {500, 5*own + 1, 0}, {500, 6*own + 2, 0},
		{501, 5*own + 3, 502}, {501, 5*own + 2, 0}, {501, 5*own + 1, 0}, {501, 6*own + 3, 0},
		{502, 5*own + 1, 0}, {502, 5*own + 2, 0}, {0, 5*own + 1, 0}, {top, 5*own + 1, 0}, {groundSize, 5 * own, 0},
	} {
		expectDo(t, m, usual(), 3, args(c.a, c.b), c.want)
	}
}

func TestPropFromTheClassZero(t *testing.T) {
	const own = 1 << 16
	m := openGround().memory(t)
	// With Object 0 the object is of it; but at 0 there is no object.
	p := with(usual(), api.ParamObject, 0)
	expectSlip(t, m, p, 3, args(thing, 5*own), api.SlipFind)
	expectDo(t, m, p, 3, args(kind, 5*own), 0)
	// Likewise with String 0 and Routine 0.
	g := openGround()
	g.put(500, 1, 0xc0, 0xe0)
	m = g.memory(t)
	expectSlip(t, m, with(usual(), api.ParamRoutine, 0), 3, args(500, 5*own), api.SlipFind)
	expectSlip(t, m, with(usual(), api.ParamString, 0), 3, args(501, 5*own), api.SlipFind)
	expectDo(t, m, usual(), 3, args(500, 5*own), 0)
	expectDo(t, m, usual(), 3, args(501, 5*own), 0)
	// With Class 0 a class is of it, what is none is not.
	p = with(usual(), api.ParamClass, 0)
	expectDo(t, m, p, 3, args(thing, 5*own), 0)
	expectSlip(t, m, p, 3, args(theObject, 5*own), api.SlipFind)
}

func TestPropOfTheClassesPastTheLastAddress(t *testing.T) {
	const own = 1 << 16
	g := openGround()
	g.put(400, 4, kind)
	m := g.memory(t)
	for _, c := range []struct {
		classes, b uint32
		e          api.Errno
	}{
		{0, 100, api.OK}, {400, 0, api.OK}, {round - 16, 104, api.OK}, {round - 4*65535 + 400, 65535, api.OK}, {396, 1, api.OK},
		{groundSize, 0, api.FatalRead}, {groundSize - 3, 0, api.FatalRead}, {groundSize - 7, 1, api.FatalRead},
		{top, 0, api.FatalRead}, {top - 3, 0, api.FatalRead}, {top - 7, 1, api.FatalRead}, {0, 65535, api.FatalRead},
	} {
		p := with(usual(), api.ParamClasses, c.classes)
		if c.e == api.OK {
			expectDo(t, m, p, 3, args(thing, 5*own+c.b), 502)
		} else {
			expectError(t, m, p, 3, args(thing, 5*own+c.b), c.e)
			// Nothing is looked for there, of a property of its own.
			expectDo(t, m, p, 3, args(thing, 5), numbers+12)
		}
	}
}

func TestPropOfItsOwn(t *testing.T) {
	// Whether its last byte is odd matters, if it is not the object's turn.
	for _, c := range []struct {
		flag   uint32
		hidden bool
	}{{0, false}, {1, true}, {2, false}, {3, true}, {0xfe, false}, {0xff, true}, {0x100, false}, {0xff00, false}, {0x101, true}, {0xffff, true}} {
		g := openGround()
		g.table(thingTable, row{key: 5, count: 2, at: numbers, flag: c.flag})
		for _, self := range []uint32{0, thing, thing + 1, thing - 1, thing << 8, kind, top} {
			g.put(theSelf, 4, self)
			m := g.memory(t)
			at, size := uint32(numbers), uint32(8)
			if c.hidden && self != thing {
				at, size = 0, 0
			}
			expectDo(t, m, usual(), 3, args(thing, 5), at)
			expectDo(t, m, usual(), 4, args(thing, 5), size)
			expectDo(t, m, usual(), 2, args(thing, 5), thingTable+4)
		}
	}
}

func TestPropOfAClassesOwn(t *testing.T) {
	// Of a class's property it is the class's turn, not the object's.
	const own = 1 << 16
	g := openGround()
	g.table(kindTable, row{key: 5, count: 2, at: 502, flag: 1})
	for self, want := range map[uint32]uint32{thing: 0, kind: 502, 0: 0} {
		g.put(theSelf, 4, self)
		expectDo(t, g.memory(t), usual(), 3, args(thing, 5*own+1), want)
	}
}

func TestPropWhereSelfIsNotThere(t *testing.T) {
	m := openGround().memory(t)
	for _, self := range []uint32{groundSize - 3, groundSize, 1 << 31, top - 3, top} {
		p := with(usual(), api.ParamSelf, self)
		for _, n := range []uint32{3, 4, 6, 7} {
			expectError(t, m, p, n, args(thing, 5), api.FatalRead)
		}
		// What is not in the table, or is a class's, is not looked at so far.
		expectDo(t, m, p, 3, args(thing, 6), 0)
		expectDo(t, m, p, 3, args(kind, 5), 0)
		expectDo(t, m, p, 2, args(thing, 5), thingTable+24)
	}
	expectDo(t, m, with(usual(), api.ParamSelf, groundSize-4), 3, args(thing, 5), numbers+12)
}

func TestPropWhoseRowIsNotAllThere(t *testing.T) {
	for room := uint32(6); room < 16; room++ {
		g := openGround()
		at := uint32(groundSize) - room
		g.put(thing+16, 4, at)
		g.table(at, row{key: 5, count: 2, at: numbers + 12})
		for _, self := range []uint32{0, thing} {
			g.put(theSelf, 4, self)
			m := g.memory(t)
			for n, need := range map[uint32]uint32{3: 12, 4: 8} {
				if self != thing {
					need = 14
				}
				if room < need {
					expectError(t, m, usual(), n, args(thing, 5), api.FatalRead)
				} else {
					expectDo(t, m, usual(), n, args(thing, 5), map[uint32]uint32{3: numbers + 12, 4: 8}[n])
				}
			}
		}
	}
}

func TestPropOfAnObjectWhoseClassIsNotThere(t *testing.T) {
	// Where its table's address ends the memory, what it says of its class is not there.
	const last = groundSize - 20
	g := openGround()
	g.object(last, 7, thingTable, 0)
	g.put(theClasses, 4, last)
	m := g.memory(t)
	for _, b := range []uint32{2, 3, 5, 70} {
		expectError(t, m, usual(), 3, args(last, b), api.FatalRead)
		expectError(t, m, usual(), 4, args(last, b), api.FatalRead)
	}
	expectDo(t, m, usual(), 3, args(last, 6), 0)
	expectDo(t, m, usual(), 2, args(last, 5), thingTable+24)
	// Of a class from which an object has something it is not asked.
	const own = 1 << 16
	p := with(usual(), api.ParamObject, last)
	expectDo(t, m, p, 3, args(thing, 5*own), numbers+12)
	expectDo(t, m, p, 4, args(thing, 70*own), 12)
}

func TestPropAttrs(t *testing.T) {
	// In the functions from 8 on the table's address and the class lie where Attrs says.
	for attrs, at := range map[uint32]uint32{0: 12, 3: 12, 7: 16, 11: 20, 15: 24, 39: 48, top: 8, top - 4: 4, top - 28: round - 20} {
		g := newGround()
		g.put(thing, 1, 0x70)
		g.table(thingTable, row{key: 5, count: 2, at: numbers}, row{key: 64, count: 3, at: numbers + 8})
		g.put(thing+at, 4, thingTable)
		class := thing + 13 + attrs
		p := with(usual(), api.ParamAttrs, attrs)
		for says, want := range map[uint32]uint32{theClass - 1: numbers, theClass: 0, 0: numbers} {
			if attrs == 0 {
				// The class lies upon the table's address, but for one byte: Class is what lies there.
				g.put(thing+16, 1, says)
				p[api.ParamClass] = thingTable<<8 | theClass&255
			} else {
				g.put(class, 4, says)
			}
			m := g.memory(t)
			expectDo(t, m, p, 9, args(thing, 5), want)
			expectDo(t, m, p, 9, args(thing, 64), numbers+8)
			expectDo(t, m, p, 10, args(thing, 64), 12)
		}
	}
}
