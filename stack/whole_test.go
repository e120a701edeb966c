package stack

import (
	"bytes"
	"slices"
	"testing"

	"grotto/api"
)

// P10.7

// expectThrow: Throw is done: token is the top, and that frame the current one.
func expectThrow(t *testing.T, s *Stack, token, frame uint32) {
	t.Helper()
	was := s.Bytes()
	good(t, "Throw", s.Throw(token))
	expectStack(t, "behind Throw", s, was[:token], frame, true)
}

// expectNoThrow: Throw is refused with each of these, and nothing changes.
func expectNoThrow(t *testing.T, s *Stack, l ...uint32) {
	t.Helper()
	for _, token := range l {
		expectRefused(t, "Throw", s, api.FatalThrow, func() api.Errno { return s.Throw(token) })
	}
}

func TestThrowWithinAFrame(t *testing.T) {
	s := entered(t, 200, example(), 5)
	good(t, "Stub", s.Stub(1, 2, 3))
	token := s.Top()
	pushed(t, s, 6, 7)
	expectThrow(t, s, token, 0)
	expectValues(t, s, 5, 1, 2, 3, 0)
	expectThrow(t, s, token, 0)
	expectUnstub(t, s, 1, 2, 3)
	expectNoThrow(t, s, token)
}

func TestThrowOutOfCalls(t *testing.T) {
	s := entered(t, 1000, example(), 5)
	tokens, frames := []uint32{}, []uint32{}
	for i := range uint32(10) {
		f, _ := s.Frame()
		pushed(t, s, 1, i)
		frames = append(frames, f)
		tokens = append(tokens, called(t, s, [][]byte{mixed(), noLocals(), example()}[i%3]))
	}
	for i, token := range tokens {
		c := s.Copy()
		expectThrow(t, c, token, frames[i])
		expectUnstub(t, c, 1, 2, 3)
		x, e := c.Pop()
		same(t, "Pop", x, uint32(i))
		good(t, "Pop", e)
		// All the way down one goes back as if there had been no Throw.
		for range i {
			good(t, "Leave", c.Leave())
			expectUnstub(t, c, 1, 2, 3)
		}
		good(t, "Leave", c.Leave())
		expectNoStub(t, c, api.ErrNone)
	}
}

func TestThrowToEachPlace(t *testing.T) {
	// All values tell the frame itself: a token may be at each place from sixteen bytes behind its locals on.
	s := entered(t, 400, noLocals(), 0, 0, 0, 0, 0, 0)
	good(t, "Enter", s.Enter(example()))
	begin, _ := s.Frame()
	same(t, "Frame", begin, 36)
	pushed(t, s, 36, 36, 36, 36, 36)
	good(t, "SetLocal", s.SetLocal(8, 4, 36))
	low := begin + 28
	for token := range s.Top() + 20 {
		c := s.Copy()
		switch {
		case token == 28 || token == 32 || token == 36:
			expectThrow(t, c, token, 0)
		case token%4 == 0 && token >= low+16 && token <= s.Top():
			expectThrow(t, c, token, 36)
		default:
			expectNoThrow(t, c, token)
		}
	}
	expectNoThrow(t, s, 1<<31, 1<<31+28, top32, top32-3, 1<<16)
}

func TestThrowAtTheLowestPlace(t *testing.T) {
	for _, format := range [][]byte{noLocals(), example(), mixed()} {
		pos, size, _ := Locals(format)
		low := uint32(pos + size)
		s := entered(t, 200, format, 0, 0, 0, 0)
		expectNoThrow(t, s, 0, 4, 8, 12, low, low+4, low+8, low+12, low+13, low+14, low+15, low+17, low+20)
		expectThrow(t, s, low+16, 0)
	}
	// A local that tells the frame is no stub's end.
	s := entered(t, 200, []byte{4, 9, 0, 0})
	expectNoThrow(t, s, 12, 16, 20, 28, 32, 36, 40, 44, 48)
}

func TestThrowTellsAnotherFrame(t *testing.T) {
	s := entered(t, 400, noLocals(), 0, 9, 9, 9, 28, 9, 9, 9, 0)
	good(t, "Enter", s.Enter(noLocals())) // from 48 on
	pushed(t, s, 0, 0, 0, 0, 4, 12, 48, 60, 49)
	expectNoThrow(t, s,
		28,         // 9 is told
		32,         // 28 is told, where no frame begins
		48+12+16,   // 0 is told, which is a frame that ends below
		48+12+20,   // 4
		48+12+24,   // 12
		48+12+32,   // 60
		48+12+36,   // 49
		48+12+16+1, // what is no multiple of 4
	)
	expectThrow(t, s.Copy(), 48, 0)
	expectThrow(t, s, 48+12+28, 48)
}

func TestThrowTellsAnUpperFrame(t *testing.T) {
	// The lower frame has a value that tells the upper one.
	s := entered(t, 400, noLocals(), 1, 2, 3, 48, 5, 6, 7, 8, 0)
	good(t, "Enter", s.Enter(noLocals()))
	f, _ := s.Frame()
	same(t, "Frame", f, 48)
	expectNoThrow(t, s, 28)
}

func TestThrowBeyondTheFramesEnd(t *testing.T) {
	// The third frame's length, and then its pos, tell where the second one begins: but that one ends ahead of them.
	s := entered(t, 400, noLocals())
	begin := called(t, s, noLocals())
	same(t, "the second frame", begin, 28)
	top := called(t, s, []byte{4, 4, 0, 0})
	same(t, "its length", wordAt(s.Bytes(), int(top)), 28)
	expectNoThrow(t, s, top+4, top+8)
	expectThrow(t, s, top, 28)
}

func TestThrowWithoutFrame(t *testing.T) {
	expectNoThrow(t, made(t, 100), 0, 4, 16, 28)
	s := entered(t, 100, noLocals())
	token := called(t, s, noLocals())
	good(t, "Leave", s.Leave())
	expectNoThrow(t, s, token, 16, 0)
	s.Unstub()
	s.Leave()
	expectNoThrow(t, s, token, 16, 0)
}

func TestThrowAboveTheTop(t *testing.T) {
	s := entered(t, 100, noLocals())
	good(t, "Stub", s.Stub(1, 2, 3))
	token := s.Top()
	_, e := s.Pop()
	good(t, "Pop", e)
	expectNoThrow(t, s, token)
	pushed(t, s, 0)
	expectThrow(t, s, token, 0)
}

// P10.8

// expectLoad: Load is done on a stack with other things, and it is that.
func expectLoad(t *testing.T, b []byte, frame uint32) *Stack {
	t.Helper()
	for _, s := range []*Stack{made(t, len(b)), made(t, min(len(b)+1, api.MaxStack)), made(t, api.MaxStack), entered(t, api.MaxStack, mixed(), 1, 2, 3)} {
		good(t, "Load", s.Load(b))
		expectStack(t, "loaded", s, b, frame, true)
	}
	s := made(t, api.MaxStack)
	good(t, "Load", s.Load(b))
	return s
}

// expectNoLoad: Load is refused, and nothing changes.
func expectNoLoad(t *testing.T, what string, b []byte) {
	t.Helper()
	left := entered(t, 300, mixed(), 1, 2, 3)
	called(t, left, example())
	left.Leave()
	for _, s := range []*Stack{made(t, api.MaxStack), entered(t, 400, mixed(), 1, 2, 3), left} {
		expectRefused(t, "Load of "+what, s, api.FatalFrame, func() api.Errno { return s.Load(b) })
	}
}

// frameOf: a frame as bytes, with these values.
func frameOf(t *testing.T, format []byte, l ...uint32) []byte {
	t.Helper()
	return entered(t, api.MaxStack, format, l...).Bytes()
}

// with: b, but the number at a place is x.
func with(b []byte, at int, x uint32) []byte {
	return slices.Concat(b[:at], words(x), b[at+4:])
}

func TestLoad(t *testing.T) {
	for _, format := range [][]byte{noLocals(), example(), mixed(), {1, 255, 0, 0}, {4, 255, 0, 0}} {
		b := frameOf(t, format, 7, 8, 1, 2, 3, 0)
		s := expectLoad(t, b, 0)
		expectValues(t, s, 7, 8, 1, 2, 3, 0)
		expectUnstub(t, s, 1, 2, 3)
		expectValues(t, s, 7, 8)
		good(t, "Args", s.Args(0x81))
		good(t, "Leave", s.Leave())
		expectNoStub(t, s, api.ErrNone)
	}
	expectLoad(t, frameOf(t, noLocals(), 1, 2, 3, 0), 0)
}

func TestLoadManyFrames(t *testing.T) {
	s := entered(t, api.MaxStack, example())
	good(t, "Args", s.Args(1, 2, 3, 4, 5))
	tokens := []uint32{}
	for i := range uint32(300) {
		tokens = append(tokens, called(t, s, [][]byte{mixed(), noLocals(), example()}[i%3], i))
		good(t, "Args", s.Args(i))
	}
	f, _ := s.Frame()
	good(t, "Stub", s.Stub(1, 2, 3))
	u := expectLoad(t, s.Bytes(), f)
	for _, token := range []uint32{tokens[299], tokens[7], tokens[0]} {
		c := s.Copy()
		good(t, "Throw", u.Throw(token))
		good(t, "Throw", c.Throw(token))
		expectSame(t, "thrown", u, c)
	}
	expectUnstub(t, u, 1, 2, 3)
	x, e := u.Local(8, 2)
	same(t, "a local", x, 0x0304)
	good(t, "Local", e)
}

func TestLoadAsManyFramesAsMayBe(t *testing.T) {
	s := entered(t, api.MaxStack, noLocals())
	for range api.MaxStack/28 - 1 {
		called(t, s, noLocals())
	}
	f, _ := s.Frame()
	good(t, "Stub", s.Stub(1, 2, 3))
	expectLoad(t, s.Bytes(), f)
}

func TestLoadOfMoreThanThereIsRoomFor(t *testing.T) {
	b := frameOf(t, example(), 7, 1, 2, 3, 0)
	for _, size := range []int{len(b) - 1, len(b) - 4, 28, 1} {
		s := made(t, size)
		expectRefused(t, "Load", s, api.FatalFrame, func() api.Errno { return s.Load(b) })
	}
	l := make([]uint32, (api.MaxStack-12)/4)
	b = frameOf(t, noLocals(), l...)
	expectLoad(t, b, 0)
	expectNoLoad(t, "too much", append(b, 0, 0, 0, 0))
	expectNoLoad(t, "far too much", append(b, make([]byte, 1<<20)...))
}

func TestLoadOfNoStub(t *testing.T) {
	b := frameOf(t, noLocals(), 1, 2, 3, 0)
	expectNoLoad(t, "nothing", nil)
	expectNoLoad(t, "no bytes", []byte{})
	for n := range len(b) {
		expectNoLoad(t, "a beginning", b[:n])
	}
	expectNoLoad(t, "a byte more", append(bytes.Clone(b), 0))
	expectNoLoad(t, "two bytes more", append(bytes.Clone(b), 0, 0))
	expectNoLoad(t, "three bytes more", append(bytes.Clone(b), 0, 0, 0))
	expectLoad(t, append(bytes.Clone(b), 0, 0, 0, 0), 0)
	expectNoLoad(t, "another number on top", append(bytes.Clone(b), 0, 0, 0, 1))
	expectNoLoad(t, "a frame without a stub", frameOf(t, example(), 0, 0, 0))
	expectNoLoad(t, "zeros", make([]byte, 64))
}

func TestLoadOfNoFrame(t *testing.T) {
	good := frameOf(t, example(), 7, 1, 2, 3, 0)
	for what, b := range map[string][]byte{
		"f within":              with(good, len(good)-4, 4),
		"f no multiple of 4":    with(good, len(good)-4, 2),
		"f at the stub":         with(good, len(good)-4, 32),
		"f at the top":          with(good, len(good)-4, uint32(len(good))),
		"f above the top":       with(good, len(good)-4, uint32(len(good))+4),
		"f 2^31":                with(good, len(good)-4, 1<<31),
		"f 2^32 - 4":            with(good, len(good)-4, top32-3),
		"f 2^32 - 16":           with(good, len(good)-4, top32-15),
		"a length of 0":         with(good, 0, 0),
		"a length less":         with(good, 0, 24),
		"a length more":         with(good, 0, 32),
		"a byte more":           with(good, 0, 29),
		"a great length":        with(good, 0, 1<<31+28),
		"a pos less":            with(good, 4, 12),
		"a pos more":            with(good, 4, 20),
		"a pos of a byte less":  with(good, 4, 15),
		"a great pos":           with(good, 4, 1<<31+16),
		"another format":        with(good, 8, 0x04010103),
		"no width":              with(good, 8, 0x03020103),
		"no locals of a width":  with(good, 8, 0x04020100),
		"format ends at once":   with(good, 8, 0),
		"format never ends":     slices.Concat(good[:8], bytes.Repeat([]byte{1, 1}, 12), words(0, 0, 0, 0)),
		"format ends too late":  slices.Concat(words(28, 24), bytes.Repeat([]byte{1, 1}, 12), words(0, 0, 0, 0)),
		"a frame without bytes": words(1, 2, 3, 0),
		"a frame of 8 bytes":    words(8, 8, 1, 2, 3, 0),
		"one with a bad format": words(8, 8, 0x03010000, 1, 2, 3, 0),
		"half a frame":          words(12, 1, 2, 3, 0),
		"a frame without 0 0":   words(12, 12, 1, 2, 3, 0),
		"locals in the stub":    slices.Concat(words(16, 12, 0x04010000), words(0, 0, 0, 0)),
		"more of them there":    slices.Concat(words(28, 12, 0x04040000), words(0, 0, 0, 0)),
	} {
		expectNoLoad(t, what, b)
	}
	expectLoad(t, slices.Concat(words(16, 12, 0x04010000, 5), words(0, 0, 0, 0)), 0)
}

func TestLoadTakesAnyBytesBehindFormatAndLocals(t *testing.T) {
	b := frameOf(t, mixed(), 1, 2, 3, 0)
	b[18], b[19] = 0x81, 0x82 // behind the format
	b[21], b[23] = 0x83, 0x84 // between locals
	b[34], b[35] = 0x85, 0x86 // behind the last one
	s := expectLoad(t, b, 0)
	for at, want := range map[uint32]uint32{1: 0x83, 3: 0x84, 14: 0x85, 15: 0x86} {
		x, e := s.Local(at, 1)
		same(t, "Local", x, want)
		good(t, "Local", e)
	}
}

func TestLoadOfAWrongChain(t *testing.T) {
	s := entered(t, 400, example(), 7)
	begin := called(t, s, mixed(), 8)
	top := called(t, s, noLocals(), 9)
	good(t, "Stub", s.Stub(4, 5, 6))
	b := s.Bytes()
	same(t, "frames", [2]uint32{begin, top}, [2]uint32{48, 104})
	expectLoad(t, b, 104)
	at := func(place int, x uint32) []byte { return with(b, place, x) }
	for what, b := range map[string][]byte{
		"the lowest stub tells 4":           at(44, 4),
		"the lowest stub tells its frame":   at(44, 48),
		"the lowest stub tells the top one": at(44, 104),
		"the lowest stub tells 1":           at(44, 1),
		"the lowest stub tells 2^32 - 4":    at(44, top32-3),
		"the second stub tells its own":     at(100, 104),
		"the second stub tells 16":          at(100, 16),
		"the second stub tells 52":          at(100, 52),
		"the second stub tells 88":          at(100, 88),
		"the lowest frame's length":         at(0, 32),
		"the lowest frame's pos":            at(4, 12),
		"the lowest frame's format":         at(8, 0x04030103),
		"the second frame's length":         at(48, 0),
		"the second frame's pos":            at(52, 16),
		"the second frame's format":         at(56, 0x01010402),
		"the top frame's length":            at(104, 28),
		"all but the first bytes":           at(28, 9)[4:],
	} {
		expectNoLoad(t, what, b)
	}
	// To tell the lowest frame is right, too: what lies between is its values.
	expectLoad(t, at(100, 0), 104)
	expectLoad(t, at(len(b)-4, 0), 0)
	expectLoad(t, at(len(b)-4, 48), 48)
}

func TestLoadOfAFrameBelowSixteen(t *testing.T) {
	// A frame lies at 4, 8, 12, and the number ahead of it tells 0, or itself: yet 0 or 16 and more it must be.
	for n := 1; n <= 3; n++ {
		b := slices.Concat(make([]byte, 4*n), frameOf(t, noLocals(), 1, 2, 3, uint32(4*n)))
		expectNoLoad(t, "a frame below 16", b)
		expectNoLoad(t, "a frame below 16 that tells itself", with(b, 4*n-4, uint32(4*n)))
	}
	// At 16 it may lie, but below it there is no room for another frame.
	expectNoLoad(t, "a frame at 16", slices.Concat(words(1, 2, 3, 0), frameOf(t, noLocals(), 1, 2, 3, 16)))
	expectNoLoad(t, "a frame at 24", slices.Concat(words(12, 12, 1, 2, 3, 0), frameOf(t, noLocals(), 1, 2, 3, 24)))
	expectLoad(t, slices.Concat(words(12, 12, 0, 1, 2, 3, 0), frameOf(t, noLocals(), 1, 2, 3, 28)), 28)
	// The lowest frame may not end behind the stub's beginning.
	low := slices.Concat(words(16, 12, 0x01010000), words(2, 3, 4, 0))
	expectNoLoad(t, "a lowest frame with too little room", slices.Concat(low, frameOf(t, noLocals(), 1, 2, 3, 28)))
}

func TestLoadOfAFrameAtNoMultipleOfFour(t *testing.T) {
	low, gap := words(12, 12, 0), make([]byte, 2)
	b := slices.Concat(low, gap, words(1, 2, 3, 0), words(12, 12, 0), gap, words(1, 2, 3, 30))
	expectNoLoad(t, "a frame at 30", b)
	b = slices.Concat(low, gap, gap, words(1, 2, 3, 0), words(12, 12, 0), words(1, 2, 3, 32))
	expectLoad(t, b, 32)
}

func TestLoadKeepsTheSize(t *testing.T) {
	s := made(t, 40)
	good(t, "Load", s.Load(frameOf(t, noLocals(), 9, 1, 2, 3, 0)))
	pushed(t, s, 1, 2)
	expectRefused(t, "Push", s, api.FatalOver, func() api.Errno { return s.Push(3) })
}

// P10.9

func TestCopy(t *testing.T) {
	for _, s := range []*Stack{made(t, 1), made(t, 100), entered(t, 100, example(), 1, 2)} {
		expectSame(t, "copied", s.Copy(), s)
	}
	s := entered(t, 49, example(), 1, 2)
	was, c := s.Bytes(), s.Copy()
	pushed(t, c, 3, 4)
	good(t, "SetLocal", c.SetLocal(0, 4, 7))
	good(t, "Swap", c.Swap())
	expectStack(t, "what was copied", s, was, 0, true)
	pushed(t, s, 5, 6)
	expectValues(t, s, 1, 2, 5, 6)
	expectValues(t, c, 1, 2, 4, 3)
	pushed(t, c, 9)
	expectRefused(t, "Push", c, api.FatalOver, func() api.Errno { return c.Push(3) })
	good(t, "Leave", c.Leave())
	expectStack(t, "left", c, nil, 0, false)
	expectStack(t, "a copy of what was left", c.Copy(), nil, 0, false)
	expectValues(t, s, 1, 2, 5, 6)
	// Without a current frame, too.
	s = entered(t, 100, example(), 1, 2)
	called(t, s, noLocals())
	s.Leave()
	c = s.Copy()
	expectSame(t, "left", c, s)
	expectUnstub(t, c, 1, 2, 3)
	expectValues(t, c, 1, 2)
	_, ok := s.Frame()
	same(t, "Frame", ok, false)
}

func TestNil(t *testing.T) {
	var s *Stack
	b := frameOf(t, noLocals(), 1, 2, 3, 0)
	for what, e := range map[string]api.Errno{
		"Enter":                s.Enter(noLocals()),
		"Enter of no format":   s.Enter(nil),
		"Leave":                s.Leave(),
		"Args":                 s.Args(),
		"Args of one":          s.Args(1),
		"SetLocal":             s.SetLocal(0, 1, 1),
		"SetLocal of 3":        s.SetLocal(0, 3, 1),
		"Push":                 s.Push(1),
		"Swap":                 s.Swap(),
		"Roll":                 s.Roll(1, 1),
		"Roll of 0":            s.Roll(0, 1),
		"Dup":                  s.Dup(1),
		"Dup of 0":             s.Dup(0),
		"Stub":                 s.Stub(1, 2, 3),
		"Throw":                s.Throw(16),
		"Throw of 1":           s.Throw(1),
		"Load":                 s.Load(b),
		"Load of what is none": s.Load(nil),
	} {
		same(t, what, e, api.ErrNil)
	}
	for what, call := range map[string]func() (uint32, api.Errno){
		"Local":      func() (uint32, api.Errno) { return s.Local(0, 1) },
		"Local of 3": func() (uint32, api.Errno) { return s.Local(0, 3) },
		"Pop":        func() (uint32, api.Errno) { return s.Pop() },
		"Peek":       func() (uint32, api.Errno) { return s.Peek(0) },
	} {
		x, e := call()
		same(t, what, x, 0)
		same(t, what, e, api.ErrNil)
	}
	kind, addr, pc, e := s.Unstub()
	same(t, "what Unstub tells", [3]uint32{kind, addr, pc}, [3]uint32{})
	same(t, "Unstub", e, api.ErrNil)
	expectStack(t, "nil", s, nil, 0, false)
	same(t, "Count", s.Count(), 0)
	same(t, "Copy", s.Copy(), nil)
}

func TestZeroValueDoesNotPanic(t *testing.T) {
	s := &Stack{}
	for _, call := range []func(){
		func() { s.Enter(noLocals()) }, func() { s.Leave() }, func() { s.Args(1) }, func() { s.Local(0, 1) }, func() { s.SetLocal(0, 1, 1) },
		func() { s.Push(1) }, func() { s.Pop() }, func() { s.Count() }, func() { s.Peek(0) }, func() { s.Swap() }, func() { s.Roll(1, 1) }, func() { s.Dup(1) },
		func() { s.Stub(1, 2, 3) }, func() { s.Unstub() }, func() { s.Throw(16) }, func() { s.Load(words(12, 12, 0, 1, 2, 3, 0)) },
		func() { s.Bytes() }, func() { s.Top() }, func() { s.Frame() }, func() { s.Copy().Push(1) },
	} {
		call()
	}
}

// What holds everywhere: nothing is shared.

func TestNothingIsShared(t *testing.T) {
	room := bytes.Repeat([]byte{0xee}, 64)
	format := append(room[:0], mixed()...)
	s := made(t, 400)
	good(t, "Enter", s.Enter(format))
	pushed(t, s, 1, 2, 3)
	if !bytes.Equal(format, mixed()) || !bytes.Equal(room[len(format):], bytes.Repeat([]byte{0xee}, 64-len(format))) {
		t.Error("the format or its room have changed")
	}
	was := bytes.Clone(s.Bytes())
	clear(room)
	expectStack(t, "the format changed", s, was, 0, true)

	l := []uint32{1, 2, 3, 4, 5, 6, 7}
	good(t, "Args", s.Args(l...))
	if !slices.Equal(l, []uint32{1, 2, 3, 4, 5, 6, 7}) {
		t.Error("the arguments have changed")
	}
	was = bytes.Clone(s.Bytes())
	a := s.Bytes()
	clear(a[:cap(a)])
	expectStack(t, "the bytes changed", s, was, 0, true)
	a = s.Bytes()
	good(t, "SetLocal", s.SetLocal(0, 4, top32))
	if !bytes.Equal(a, was) {
		t.Error("Bytes are those of the stack")
	}
}

func TestNothingIsSharedWithLoad(t *testing.T) {
	room := bytes.Repeat([]byte{0xee}, 200)
	b := append(room[:0], frameOf(t, mixed(), 1, 2, 3, 0)...)
	want := bytes.Clone(b)
	s := made(t, 400)
	good(t, "Load", s.Load(b))
	pushed(t, s, 1, 2, 3)
	good(t, "SetLocal", s.SetLocal(0, 4, top32))
	if !bytes.Equal(b, want) || !bytes.Equal(room[len(b):], bytes.Repeat([]byte{0xee}, 200-len(b))) {
		t.Error("the bytes or their room have changed")
	}
	was := bytes.Clone(s.Bytes())
	clear(room)
	expectStack(t, "the bytes changed", s, was, 0, true)
}
