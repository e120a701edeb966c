package stack

import (
	"bytes"
	"math"
	"math/rand"
	"slices"
	"testing"

	"grotto/api"
)

// formats that the tests use: without locals; of the chapter's example; with places between its locals, and bytes behind the last one.
func noLocals() []byte { return []byte{0, 0} }
func example() []byte  { return []byte{4, 2, 1, 3, 0, 0} }
func mixed() []byte    { return []byte{1, 1, 4, 1, 1, 1, 2, 2, 0, 0} }

// noFormats: bytes that are no format, in each way.
func noFormats() map[string][]byte {
	return map[string][]byte{
		"nothing":                     nil,
		"no bytes":                    {},
		"one byte":                    {0},
		"one byte 4":                  {4},
		"no 0 0":                      {4, 1},
		"no 0 0 behind two":           {4, 1, 2, 1},
		"half of 0 0":                 {4, 1, 0},
		"a byte behind 0 0":           {0, 0, 0},
		"a byte behind":               {4, 1, 0, 0, 0},
		"0 0 twice":                   {0, 0, 0, 0},
		"0 0 twice behind a pair":     {4, 1, 0, 0, 0, 0},
		"a pair behind 0 0":           {0, 0, 4, 1},
		"a pair between 0 0":          {0, 0, 4, 1, 0, 0},
		"no locals of 4":              {4, 0, 0, 0},
		"no locals of 1, behind some": {4, 1, 1, 0, 0, 0},
		"locals of 0":                 {0, 1, 0, 0},
		"locals of 3":                 {3, 1, 0, 0},
		"locals of 5":                 {5, 1, 0, 0},
		"locals of 6":                 {6, 1, 0, 0},
		"locals of 8":                 {8, 1, 0, 0},
		"locals of 255":               {255, 1, 0, 0},
		"locals of 0, behind some":    {2, 7, 0, 2, 0, 0},
	}
}

// pushed: these are on top.
func pushed(t *testing.T, s *Stack, l ...uint32) {
	t.Helper()
	for _, x := range l {
		good(t, "Push", s.Push(x))
	}
}

// entered: a frame of that format on an empty stack for so many bytes, with these values.
func entered(t *testing.T, size int, format []byte, l ...uint32) *Stack {
	t.Helper()
	s := made(t, size)
	good(t, "Enter", s.Enter(format))
	pushed(t, s, l...)
	return s
}

// called: a stub, and a frame of that format with these values on it; the stub's token.
func called(t *testing.T, s *Stack, format []byte, l ...uint32) uint32 {
	t.Helper()
	good(t, "Stub", s.Stub(1, 2, 3))
	token := s.Top()
	good(t, "Enter", s.Enter(format))
	pushed(t, s, l...)
	return token
}

// expectValues: the current frame has these values, the last one topmost.
func expectValues(t *testing.T, s *Stack, l ...uint32) {
	t.Helper()
	if n := s.Count(); n != len(l) {
		t.Fatalf("Count() = %d, not %d", n, len(l))
	}
	for i := range l {
		if x, e := s.Peek(uint32(i)); x != l[len(l)-1-i] || e != api.OK {
			t.Errorf("Peek(%d) = %d, %d; not %d", i, x, e, l[len(l)-1-i])
		}
	}
}

// expectRefused: the call answers e, and nothing changes.
func expectRefused(t *testing.T, what string, s *Stack, e api.Errno, call func() api.Errno) {
	t.Helper()
	was, count := s.Copy(), s.Count()
	if f := call(); f != e {
		t.Errorf("%s = %d, not %d", what, f, e)
	}
	expectSame(t, "behind "+what, s, was)
	if s.Count() != count {
		t.Errorf("behind %s: Count() = %d, not %d", what, s.Count(), count)
	}
}

// P10.1

func TestNew(t *testing.T) {
	for _, size := range []int{1, 2, 4, 15, 16, 256, api.MaxStack - 1, api.MaxStack} {
		s := made(t, size)
		expectStack(t, "new", s, nil, 0, false)
		if s.Count() != 0 {
			t.Errorf("New(%d): %d values", size, s.Count())
		}
	}
	for _, size := range []int{0, -1, -4, math.MinInt, api.MaxStack + 1, api.MaxStack + 4, math.MaxInt, 1 << 32, 1<<32 + 64} {
		if s, e := New(size); s != nil || e != api.ErrArg {
			t.Errorf("New(%d) = %v, %d; not nil, ErrArg", size, s, e)
		}
	}
}

func TestRoomIsTheSize(t *testing.T) {
	for _, size := range []int{1, 11, 12, 13, 15, 16, 100, 101, 102, 103, api.MaxStack - 1, api.MaxStack} {
		s := made(t, size)
		if e := s.Enter(noLocals()); (e == api.OK) != (size >= 12) {
			t.Errorf("size %d: Enter = %d", size, e)
		} else if e != api.OK {
			expectStack(t, "behind Enter", s, nil, 0, false)
			continue
		}
		n := 0
		for s.Push(uint32(n)) == api.OK {
			n++
		}
		if n != (size-12)/4 || s.Count() != n || int(s.Top()) != 12+4*n {
			t.Errorf("size %d: %d values, Count() = %d, Top() = %d", size, n, s.Count(), s.Top())
		}
	}
}

func TestTopFrameBytes(t *testing.T) {
	s := entered(t, 256, example(), 5)
	b := slices.Concat(words(28, 16), example(), make([]byte, 14), words(5))
	expectStack(t, "one frame", s, b, 0, true)
	good(t, "Stub", s.Stub(1, 2, 3))
	b = append(b, words(1, 2, 3, 0)...)
	expectStack(t, "a stub", s, b, 0, true)
	good(t, "Enter", s.Enter(noLocals()))
	b = append(b, 0, 0, 0, 12, 0, 0, 0, 12, 0, 0, 0, 0)
	expectStack(t, "two frames", s, b, 48, true)
	pushed(t, s, 0x01020384)
	expectStack(t, "a value", s, append(b, 1, 2, 3, 0x84), 48, true)
	good(t, "Leave", s.Leave())
	expectStack(t, "left", s, b[:48], 0, false)
}

func TestExample(t *testing.T) {
	if pos, size, e := Locals(example()); pos != 16 || size != 12 || e != api.OK {
		t.Errorf("Locals = %d, %d, %d", pos, size, e)
	}
	s := entered(t, 100, example())
	same(t, "Top", s.Top(), 28)
	pushed(t, s, 5)
	same(t, "Top", s.Top(), 32)
	good(t, "Stub", s.Stub(1, 2, 3))
	same(t, "Top", s.Top(), 48)
	if kind, addr, pc, e := s.Unstub(); kind != 1 || addr != 2 || pc != 3 || e != api.OK {
		t.Errorf("Unstub() = %d, %d, %d, %d", kind, addr, pc, e)
	}
	s = entered(t, 100, noLocals(), 8, 9, 0, 1, 2, 3, 4, 5)
	good(t, "Roll", s.Roll(5, 1))
	expectValues(t, s, 8, 9, 0, 5, 1, 2, 3, 4)
}

// P10.2

func TestLocals(t *testing.T) {
	for _, c := range []struct {
		format    []byte
		pos, size int
	}{
		{noLocals(), 12, 0},
		{[]byte{1, 1, 0, 0}, 12, 4},
		{[]byte{1, 4, 0, 0}, 12, 4},
		{[]byte{1, 5, 0, 0}, 12, 8},
		{[]byte{2, 1, 0, 0}, 12, 4},
		{[]byte{2, 2, 0, 0}, 12, 4},
		{[]byte{2, 3, 0, 0}, 12, 8},
		{[]byte{4, 1, 0, 0}, 12, 4},
		{[]byte{4, 3, 0, 0}, 12, 12},
		{[]byte{1, 255, 0, 0}, 12, 256},
		{[]byte{2, 255, 0, 0}, 12, 512},
		{[]byte{4, 255, 0, 0}, 12, 1020},
		{example(), 16, 12},
		{[]byte{1, 1, 4, 1, 0, 0}, 16, 8},
		{[]byte{1, 1, 2, 1, 0, 0}, 16, 4},
		{[]byte{2, 1, 4, 1, 0, 0}, 16, 8},
		{[]byte{1, 3, 2, 1, 4, 1, 0, 0}, 16, 12},
		{[]byte{4, 1, 4, 2, 4, 3, 0, 0}, 16, 24},
		{mixed(), 20, 16},
		{[]byte{1, 1, 2, 1, 1, 1, 4, 1, 1, 1, 0, 0}, 20, 16},
	} {
		if pos, size, e := Locals(c.format); pos != c.pos || size != c.size || e != api.OK {
			t.Errorf("Locals(% x) = %d, %d, %d; not %d, %d", c.format, pos, size, e, c.pos, c.size)
		}
	}
}

func TestLocalsRefused(t *testing.T) {
	for what, format := range noFormats() {
		if pos, size, e := Locals(format); pos != 0 || size != 0 || e != api.FatalFrame {
			t.Errorf("%s: Locals(% x) = %d, %d, %d", what, format, pos, size, e)
		}
	}
}

func TestLocalsOfAnyBytes(t *testing.T) {
	r := rand.New(rand.NewSource(102))
	formats := 0
	for range 30000 {
		b := someFormat(r)
		places, size, ok := placesOf(b)
		pos, got, e := Locals(b)
		if !ok {
			same(t, "Locals", [3]int{pos, got, int(e)}, [3]int{0, 0, int(api.FatalFrame)})
			continue
		}
		formats++
		same(t, "Locals", [3]int{pos, got, int(e)}, [3]int{(8 + len(b) + 3) / 4 * 4, size, 0})
		if size > 0 && len(places) == 0 {
			t.Errorf("% x has no locals and %d bytes", b, size)
		}
	}
	if formats < 20000 || formats > 29500 {
		t.Errorf("%d formats", formats)
	}
}

func TestLocalsOfLongFormat(t *testing.T) {
	b := append(bytes.Repeat([]byte{4, 255}, 50000), 0, 0)
	if pos, size, e := Locals(b); pos != 100012 || size != 51000000 || e != api.OK {
		t.Errorf("Locals = %d, %d, %d", pos, size, e)
	}
	s := made(t, api.MaxStack)
	expectRefused(t, "Enter", s, api.FatalOver, func() api.Errno { return s.Enter(b) })
}

// P10.3

func TestEnter(t *testing.T) {
	for _, format := range [][]byte{noLocals(), example(), mixed(), {1, 1, 0, 0}, {1, 255, 0, 0}, {2, 255, 0, 0}, {4, 255, 0, 0}} {
		_, size, _ := placesOf(format)
		c := newCall(format, size)
		s := entered(t, 4096, format)
		head := words(uint32(c.bare()), uint32(c.bare()-size))
		b := append(slices.Concat(head, format, c.behind), make([]byte, size)...)
		expectStack(t, "on nothing", s, b, 0, true)
		begin := called(t, s, format)
		expectStack(t, "on a stub", s, slices.Concat(b, words(1, 2, 3, 0), b), begin, true)
		same(t, "Count", s.Count(), 0)
	}
}

func TestEnterBehindLeave(t *testing.T) {
	s := entered(t, 200, example(), 5)
	begin := called(t, s, example(), 6, 7)
	good(t, "SetLocal", s.SetLocal(0, 4, top32))
	was := s.Bytes()[:begin]
	good(t, "Leave", s.Leave())
	good(t, "Enter", s.Enter(mixed()))
	// What the frame that is gone had in these bytes is 0.
	expectStack(t, "entered in its stead", s, slices.Concat(was, words(36, 20), mixed(), make([]byte, 18)), begin, true)
}

func TestEnterRefused(t *testing.T) {
	for what, format := range noFormats() {
		s := made(t, 8)
		expectRefused(t, what+" on nothing", s, api.FatalFrame, func() api.Errno { return s.Enter(format) })
		s = entered(t, 100, example())
		expectRefused(t, what+" without a stub", s, api.FatalFrame, func() api.Errno { return s.Enter(format) })
		good(t, "Stub", s.Stub(1, 2, 3))
		expectRefused(t, what, s, api.FatalFrame, func() api.Errno { return s.Enter(format) })
	}
}

func TestEnterWithoutStub(t *testing.T) {
	for _, c := range []struct {
		l []uint32
		e api.Errno
	}{
		{nil, api.FatalFrame},
		{[]uint32{0}, api.FatalFrame},
		{[]uint32{0, 0, 0}, api.FatalFrame},
		{[]uint32{0, 0, 0, 0}, api.OK},
		{[]uint32{9, 9, 9, 0}, api.OK},
		{[]uint32{9, 9, 9, 9, 0}, api.OK},
		{[]uint32{0, 0, 0, 4}, api.FatalFrame},
		{[]uint32{0, 0, 0, 0, 12}, api.FatalFrame},
		{[]uint32{0, 0, 0, top32}, api.FatalFrame},
	} {
		s := entered(t, 100, noLocals(), c.l...)
		if c.e == api.OK {
			good(t, "Enter", s.Enter(noLocals()))
			continue
		}
		expectRefused(t, "Enter", s, c.e, func() api.Errno { return s.Enter(noLocals()) })
		// There is no room, too: that comes behind.
		full := entered(t, int(s.Top()), noLocals(), c.l...)
		expectRefused(t, "Enter", full, c.e, func() api.Errno { return full.Enter(noLocals()) })
	}
	// The stub of the frame below is none of this one.
	s := entered(t, 200, noLocals())
	begin := called(t, s, noLocals(), 1, 2, 3, 0)
	expectRefused(t, "Enter", s, api.FatalFrame, func() api.Errno { return s.Enter(noLocals()) })
	pushed(t, s, begin)
	good(t, "Enter", s.Enter(noLocals()))
}

func TestEnterFillsTheStack(t *testing.T) {
	for _, format := range [][]byte{noLocals(), example(), mixed(), {1, 1, 0, 0}, {4, 255, 0, 0}} {
		pos, size, _ := Locals(format)
		n := pos + size
		s := entered(t, n, format)
		same(t, "Top", int(s.Top()), n)
		s = made(t, n-1)
		expectRefused(t, "Enter", s, api.FatalOver, func() api.Errno { return s.Enter(format) })
		s = entered(t, 12+16+n, noLocals())
		called(t, s, format)
		same(t, "Top", int(s.Top()), 28+n)
		s = entered(t, 12+16+n-1, noLocals())
		good(t, "Stub", s.Stub(1, 2, 3))
		expectRefused(t, "Enter", s, api.FatalOver, func() api.Errno { return s.Enter(format) })
	}
	s := entered(t, api.MaxStack, slices.Concat(bytes.Repeat([]byte{4, 255}, 64), []byte{4, 27, 0, 0}))
	same(t, "Top", s.Top(), 12+128+65388)
}

func TestLeave(t *testing.T) {
	s := made(t, 200)
	expectRefused(t, "Leave", s, api.FatalFrame, s.Leave)
	good(t, "Enter", s.Enter(example()))
	pushed(t, s, 1, 2, 3)
	was := s.Copy()
	token := called(t, s, mixed(), 4, 5)
	good(t, "Leave", s.Leave())
	expectStack(t, "left", s, append(was.Bytes(), words(1, 2, 3, 0)...), 0, false)
	same(t, "Top", s.Top(), token)
	expectRefused(t, "Leave", s, api.FatalFrame, s.Leave)
	_, _, _, e := s.Unstub()
	good(t, "Unstub", e)
	expectSame(t, "back", s, was)
	good(t, "Leave", s.Leave())
	expectStack(t, "left", s, nil, 0, false)
	expectRefused(t, "Leave", s, api.FatalFrame, s.Leave)
	// A stub on top is the frame's values, and goes with it.
	s = entered(t, 100, noLocals(), 9)
	good(t, "Stub", s.Stub(1, 2, 3))
	good(t, "Leave", s.Leave())
	expectStack(t, "left with a stub", s, nil, 0, false)
}

func TestArgs(t *testing.T) {
	for _, c := range []struct {
		format []byte
		l      []uint32
		want   []byte
	}{
		{example(), nil, make([]byte, 12)},
		{example(), []uint32{0x01020384}, []byte{1, 2, 3, 0x84, 0, 0, 0, 0, 0, 0, 0, 0}},
		{example(), []uint32{1, 2, 0x103, 0xffffff04}, []byte{0, 0, 0, 1, 0, 0, 0, 2, 3, 4, 0, 0}},
		{example(), []uint32{1, 2, 3, 4, 5}, []byte{0, 0, 0, 1, 0, 0, 0, 2, 3, 4, 5, 0}},
		{example(), []uint32{1, 2, 3, 4, 5, 6, 7}, []byte{0, 0, 0, 1, 0, 0, 0, 2, 3, 4, 5, 0}},
		{mixed(), []uint32{0x11223344, 0x55667788, 0x99aabbcc, 0xddeeff10, 0x20304050, 7}, []byte{0x44, 0, 0, 0, 0x55, 0x66, 0x77, 0x88, 0xcc, 0, 0xff, 0x10, 0x40, 0x50, 0, 0}},
		{[]byte{2, 3, 0, 0}, []uint32{0x10002, 0x8003}, []byte{0, 2, 0x80, 3, 0, 0, 0, 0}},
		{noLocals(), []uint32{1, 2}, nil},
		{noLocals(), nil, nil},
	} {
		s := entered(t, 200, c.format, 77, 78)
		was := s.Bytes()
		good(t, "Args", s.Args(c.l...))
		low := len(was) - 8 - len(c.want)
		expectStack(t, "behind Args", s, slices.Concat(was[:low], c.want, words(77, 78)), 0, true)
	}
}

func TestArgsOfManyLocals(t *testing.T) {
	for _, n := range []int{1, 2, 4} {
		l := make([]uint32, 300)
		for i := range l {
			l[i] = 0x01010101 * uint32(i%256)
		}
		s := entered(t, 2000, []byte{byte(n), 255, 0, 0}, 77)
		good(t, "Args", s.Args(l[:254]...))
		last, _ := s.Local(uint32(254*n), n)
		same(t, "the last one", last, 0)
		good(t, "Args", s.Args(l...))
		for i := range 255 {
			if x, e := s.Local(uint32(i*n), n); x != l[i]&(1<<(8*n)-1) || e != api.OK {
				t.Errorf("local %d of %d bytes = %#x, %d", i, n, x, e)
			}
		}
		expectValues(t, s, 77)
	}
}

func TestArgsAreThoseOfTheCurrentFrame(t *testing.T) {
	s := entered(t, 200, example())
	good(t, "Args", s.Args(1, 2))
	was := s.Copy()
	called(t, s, example())
	good(t, "Args", s.Args(3, 4, 5))
	good(t, "Args", s.Args(6))
	x, _ := s.Local(4, 4)
	same(t, "the second local", x, 4)
	good(t, "Leave", s.Leave())
	expectRefused(t, "Args", s, api.FatalFrame, func() api.Errno { return s.Args(1) })
	s.Unstub()
	expectSame(t, "back", s, was)
	s = made(t, 100)
	expectRefused(t, "Args", s, api.FatalFrame, func() api.Errno { return s.Args() })
}

// P10.4

func TestLocal(t *testing.T) {
	s := entered(t, 200, mixed(), 0xeeeeeeee)
	good(t, "Args", s.Args(0x44, 0x81667788, 0xcc, 0xff10, 0x4050))
	for _, c := range []struct {
		at uint32
		n  int
		x  uint32
	}{
		{0, 1, 0x44}, {4, 4, 0x81667788}, {8, 1, 0xcc}, {10, 2, 0xff10}, {12, 2, 0x4050},
		{4, 1, 0x81}, {5, 1, 0x66}, {7, 2, 0x88cc}, {7, 4, 0x88cc00ff}, {9, 2, 0xff}, {10, 4, 0xff104050},
		{0, 2, 0x4400}, {0, 4, 0x44000000}, {1, 1, 0}, {1, 2, 0}, {1, 4, 0x81}, {3, 4, 0x816677},
		{13, 2, 0x5000}, {12, 4, 0x40500000}, {14, 2, 0}, {14, 1, 0}, {15, 1, 0},
	} {
		if x, e := s.Local(c.at, c.n); x != c.x || e != api.OK {
			t.Errorf("Local(%d, %d) = %#x, %d; not %#x", c.at, c.n, x, e, c.x)
		}
	}
}

func TestSetLocal(t *testing.T) {
	for _, n := range []int{1, 2, 4} {
		for at := uint32(0); at+uint32(n) <= 16; at++ {
			s := entered(t, 200, mixed(), 0xeeeeeeee)
			b := s.Bytes()
			for i, c := range []byte{0x84, 0x93, 0xa2, 0xb1}[4-n:] {
				b[20+int(at)+i] = c
			}
			good(t, "SetLocal", s.SetLocal(at, n, 0x8493a2b1))
			expectStack(t, "behind SetLocal", s, b, 0, true)
			if x, e := s.Local(at, n); x != 0x8493a2b1&(1<<(8*n)-1) || e != api.OK {
				t.Errorf("Local(%d, %d) = %#x, %d", at, n, x, e)
			}
		}
	}
}

// expectNoLocal: Local and SetLocal answer e, and nothing changes.
func expectNoLocal(t *testing.T, s *Stack, at uint32, n int, e api.Errno) {
	t.Helper()
	expectRefused(t, "Local", s, e, func() api.Errno {
		x, e := s.Local(at, n)
		same(t, "what Local tells", x, 0)
		return e
	})
	expectRefused(t, "SetLocal", s, e, func() api.Errno { return s.SetLocal(at, n, 7) })
}

func TestLocalRefused(t *testing.T) {
	s := entered(t, 200, mixed(), 1, 2, 3)
	for _, n := range []int{1, 2, 4} {
		for _, at := range []uint32{17 - uint32(n), 16, 17, 20, 1 << 16, 1<<31 - 1, 1 << 31, top32 - 3, top32 - 1, top32} {
			expectNoLocal(t, s, at, n, api.FatalLocal)
		}
		expectNoLocal(t, entered(t, 100, noLocals(), 1, 2), 0, n, api.FatalLocal)
		expectNoLocal(t, made(t, 100), 0, n, api.FatalFrame)
		expectNoLocal(t, made(t, 100), top32, n, api.FatalFrame)
		left := entered(t, 200, mixed())
		called(t, left, mixed())
		good(t, "Leave", left.Leave())
		expectNoLocal(t, left, 0, n, api.FatalFrame)
	}
	for _, n := range []int{0, 3, 5, 8, 16, -1, -4, math.MinInt, math.MaxInt, 1<<32 + 4} {
		expectNoLocal(t, s, 0, n, api.ErrArg)
		expectNoLocal(t, s, top32, n, api.ErrArg)
		expectNoLocal(t, made(t, 100), 0, n, api.ErrArg)
	}
}

func TestLocalIsTheCurrentFrames(t *testing.T) {
	s := entered(t, 200, example())
	good(t, "Args", s.Args(1, 2))
	called(t, s, []byte{2, 1, 0, 0})
	expectNoLocal(t, s, 4, 4, api.FatalLocal)
	good(t, "SetLocal", s.SetLocal(0, 2, 9))
	x, _ := s.Local(0, 2)
	same(t, "the upper one", x, 9)
	s.Leave()
	s.Unstub()
	x, _ = s.Local(0, 4)
	same(t, "the lower one", x, 1)
}

// P10.5

func TestNoFrame(t *testing.T) {
	left := entered(t, 200, mixed(), 1, 2, 3, 4)
	called(t, left, mixed(), 5, 6)
	good(t, "Leave", left.Leave())
	for _, s := range []*Stack{made(t, 100), made(t, 1), left} {
		same(t, "Count", s.Count(), 0)
		for what, call := range map[string]func() api.Errno{
			"Push": func() api.Errno { return s.Push(1) },
			"Pop": func() api.Errno {
				x, e := s.Pop()
				same(t, "Pop", x, 0)
				return e
			},
			"Peek": func() api.Errno {
				x, e := s.Peek(0)
				same(t, "Peek", x, 0)
				return e
			},
			"Swap":      func() api.Errno { return s.Swap() },
			"Roll":      func() api.Errno { return s.Roll(2, 1) },
			"Roll of 0": func() api.Errno { return s.Roll(0, 1) },
			"Dup":       func() api.Errno { return s.Dup(1) },
			"Dup of 0":  func() api.Errno { return s.Dup(0) },
			"Stub":      func() api.Errno { return s.Stub(1, 2, 3) },
		} {
			expectRefused(t, what, s, api.FatalFrame, call)
		}
	}
}

func TestPushAndPop(t *testing.T) {
	s := entered(t, 200, example())
	l := []uint32{0, 1, 0x01020384, 1 << 31, top32}
	pushed(t, s, l...)
	expectValues(t, s, l...)
	expectStack(t, "pushed", s, append(s.Bytes()[:28], words(l...)...), 0, true)
	for i := len(l) - 1; i >= 0; i-- {
		if x, e := s.Pop(); x != l[i] || e != api.OK {
			t.Errorf("Pop() = %#x, %d; not %#x", x, e, l[i])
		}
		expectValues(t, s, l[:i]...)
	}
	expectRefused(t, "Pop", s, api.FatalUnder, func() api.Errno {
		x, e := s.Pop()
		same(t, "Pop", x, 0)
		return e
	})
}

func TestPopLeavesTheFrameBelowAlone(t *testing.T) {
	s := entered(t, 200, example(), 7, 8)
	called(t, s, noLocals())
	same(t, "Count", s.Count(), 0)
	_, e := s.Pop()
	same(t, "Pop", e, api.FatalUnder)
	_, e = s.Peek(0)
	same(t, "Peek", e, api.FatalUnder)
	same(t, "Swap", s.Swap(), api.FatalUnder)
	same(t, "Roll", s.Roll(1, 1), api.FatalUnder)
	same(t, "Dup", s.Dup(1), api.FatalUnder)
	s.Leave()
	s.Unstub()
	expectValues(t, s, 7, 8)
}

func TestPushFillsTheStack(t *testing.T) {
	s := entered(t, 20, noLocals(), 1, 2)
	expectRefused(t, "Push", s, api.FatalOver, func() api.Errno { return s.Push(3) })
	for size := 16; size < 20; size++ {
		s := entered(t, size, noLocals(), 1)
		expectRefused(t, "Push", s, api.FatalOver, func() api.Errno { return s.Push(3) })
		expectValues(t, s, 1)
	}
	x, e := s.Pop()
	same(t, "Pop", x, 2)
	good(t, "Pop", e)
	pushed(t, s, 3)
	expectValues(t, s, 1, 3)
}

func TestPeek(t *testing.T) {
	s := entered(t, 200, example(), 10, 11, 12, 13)
	was := s.Copy()
	for i, want := range []uint32{13, 12, 11, 10} {
		if x, e := s.Peek(uint32(i)); x != want || e != api.OK {
			t.Errorf("Peek(%d) = %d, %d; not %d", i, x, e, want)
		}
	}
	for _, i := range []uint32{4, 5, 11, 1 << 30, 1<<30 - 1, 1<<31 - 1, 1 << 31, top32 - 1, top32} {
		expectRefused(t, "Peek", s, api.FatalUnder, func() api.Errno {
			x, e := s.Peek(i)
			same(t, "Peek", x, 0)
			return e
		})
	}
	expectSame(t, "peeked", s, was)
}

func TestSwap(t *testing.T) {
	s := entered(t, 200, example(), 1, 2, 3)
	good(t, "Swap", s.Swap())
	expectValues(t, s, 1, 3, 2)
	good(t, "Swap", s.Swap())
	expectValues(t, s, 1, 2, 3)
	good(t, "Swap", entered(t, 20, noLocals(), 1, 2).Swap())
	for _, l := range [][]uint32{nil, {7}} {
		s := entered(t, 200, example(), l...)
		expectRefused(t, "Swap", s, api.FatalUnder, s.Swap)
	}
}

func TestRoll(t *testing.T) {
	for _, c := range []struct {
		n, k uint32
		want []uint32
	}{
		{0, 0, []uint32{1, 2, 3, 4, 5}},
		{0, 1, []uint32{1, 2, 3, 4, 5}},
		{0, top32, []uint32{1, 2, 3, 4, 5}},
		{1, 1, []uint32{1, 2, 3, 4, 5}},
		{2, 1, []uint32{1, 2, 3, 5, 4}},
		{3, 0, []uint32{1, 2, 3, 4, 5}},
		{3, 1, []uint32{1, 2, 5, 3, 4}},
		{3, 2, []uint32{1, 2, 4, 5, 3}},
		{3, 3, []uint32{1, 2, 3, 4, 5}},
		{3, 4, []uint32{1, 2, 5, 3, 4}},
		{3, top32, []uint32{1, 2, 4, 5, 3}},     // -1
		{3, top32 - 1, []uint32{1, 2, 5, 3, 4}}, // -2
		{3, top32 - 2, []uint32{1, 2, 3, 4, 5}}, // -3
		{3, top32 - 3, []uint32{1, 2, 4, 5, 3}}, // -4
		{3, 1<<31 - 1, []uint32{1, 2, 5, 3, 4}}, // 2147483647 is 1
		{3, 1 << 31, []uint32{1, 2, 5, 3, 4}},   // -2147483648 is 1
		{3, 1<<31 + 1, []uint32{1, 2, 4, 5, 3}}, // -2147483647 is 2
		{5, 1, []uint32{5, 1, 2, 3, 4}},
		{5, 2, []uint32{4, 5, 1, 2, 3}},
		{5, 4, []uint32{2, 3, 4, 5, 1}},
		{5, top32, []uint32{2, 3, 4, 5, 1}},     // -1
		{5, 1<<31 - 1, []uint32{4, 5, 1, 2, 3}}, // 2147483647 is 2
		{5, 1 << 31, []uint32{4, 5, 1, 2, 3}},   // -2147483648 is 2
		{4, 1 << 31, []uint32{1, 2, 3, 4, 5}},
		{4, 1<<31 + 1, []uint32{1, 5, 2, 3, 4}}, // -2147483647 is 1
		{2, top32, []uint32{1, 2, 3, 5, 4}},     // -1
		{2, 1000000001, []uint32{1, 2, 3, 5, 4}},
		{5, 2000000003, []uint32{3, 4, 5, 1, 2}},
		{5, ^uint32(6), []uint32{3, 4, 5, 1, 2}}, // -7
		{5, ^uint32(5), []uint32{2, 3, 4, 5, 1}}, // -6
		{5, ^uint32(4), []uint32{1, 2, 3, 4, 5}}, // -5
		{5, 1<<31 + 5, []uint32{4, 5, 1, 2, 3}},  // -2147483643
		{3, 3000000000, []uint32{1, 2, 4, 5, 3}}, // -1294967296 is 2
		{1, 3000000000, []uint32{1, 2, 3, 4, 5}},
		{5, 0xfffffffe, []uint32{3, 4, 5, 1, 2}},     // -2
		{4, 0x7ffffffe, []uint32{1, 4, 5, 2, 3}},     // 2
		{4, 0x80000002, []uint32{1, 4, 5, 2, 3}},     // -2147483646 is 2
		{2, 0x80000000 + 1, []uint32{1, 2, 3, 5, 4}}, // odd
	} {
		s := entered(t, 200, example(), 1, 2, 3, 4, 5)
		good(t, "Roll", s.Roll(c.n, c.k))
		if b := slices.Concat(s.Bytes()[:28], words(c.want...)); !bytes.Equal(s.Bytes(), b) {
			t.Errorf("Roll(%d, %d): % x, not % x", c.n, int32(c.k), s.Bytes()[28:], b[28:])
		}
	}
}

func TestRollRefused(t *testing.T) {
	s := entered(t, 200, example(), 1, 2, 3)
	for _, n := range []uint32{4, 5, 1 << 30, 1<<30 + 1, 1<<31 - 1, 1 << 31, top32} {
		for _, k := range []uint32{0, 1, n, top32} {
			expectRefused(t, "Roll", s, api.FatalUnder, func() api.Errno { return s.Roll(n, k) })
		}
	}
	s = entered(t, 200, example())
	good(t, "Roll", s.Roll(0, 5))
	expectRefused(t, "Roll", s, api.FatalUnder, func() api.Errno { return s.Roll(1, 0) })
}

func TestDup(t *testing.T) {
	for n, want := range [][]uint32{{1, 2, 3}, {1, 2, 3, 3}, {1, 2, 3, 2, 3}, {1, 2, 3, 1, 2, 3}} {
		s := entered(t, 200, example(), 1, 2, 3)
		good(t, "Dup", s.Dup(uint32(n)))
		expectValues(t, s, want...)
		same(t, "Top", int(s.Top()), 28+4*len(want))
	}
	s := entered(t, 200, example())
	good(t, "Dup", s.Dup(0))
	for _, n := range []uint32{1, 2, 1 << 30, 1 << 31, top32} {
		expectRefused(t, "Dup", s, api.FatalUnder, func() api.Errno { return s.Dup(n) })
	}
	pushed(t, s, 1, 2, 3)
	for _, n := range []uint32{4, 7, 1 << 30, 1<<30 + 1, 1 << 31, top32} {
		expectRefused(t, "Dup", s, api.FatalUnder, func() api.Errno { return s.Dup(n) })
	}
}

func TestDupFillsTheStack(t *testing.T) {
	for n := uint32(1); n <= 3; n++ {
		s := entered(t, 24+4*int(n), noLocals(), 1, 2, 3)
		good(t, "Dup", s.Dup(n))
		same(t, "Top", s.Top(), 24+4*n)
		s = entered(t, 24+4*int(n)-1, noLocals(), 1, 2, 3)
		expectRefused(t, "Dup", s, api.FatalOver, func() api.Errno { return s.Dup(n) })
		// That there are too few comes first.
		expectRefused(t, "Dup", s, api.FatalUnder, func() api.Errno { return s.Dup(4) })
	}
	s := entered(t, 12, noLocals())
	good(t, "Dup", s.Dup(0))
	good(t, "Roll", s.Roll(0, 1))
}

// P10.6

// expectUnstub: Unstub answers that.
func expectUnstub(t *testing.T, s *Stack, kind, addr, pc uint32) {
	t.Helper()
	if k, a, p, e := s.Unstub(); k != kind || a != addr || p != pc || e != api.OK {
		t.Errorf("Unstub() = %d, %d, %d, %d; not %d, %d, %d", k, a, p, e, kind, addr, pc)
	}
}

// expectNoStub: Unstub answers e and zeros, and nothing changes.
func expectNoStub(t *testing.T, s *Stack, e api.Errno) {
	t.Helper()
	expectRefused(t, "Unstub", s, e, func() api.Errno {
		kind, addr, pc, e := s.Unstub()
		same(t, "what Unstub tells", [3]uint32{kind, addr, pc}, [3]uint32{})
		return e
	})
}

func TestStub(t *testing.T) {
	s := entered(t, 200, example(), 5)
	was := s.Copy()
	good(t, "Stub", s.Stub(0x81828384, 7, top32))
	expectValues(t, s, 5, 0x81828384, 7, top32, 0)
	expectUnstub(t, s, 0x81828384, 7, top32)
	expectSame(t, "unstubbed", s, was)
	begin := called(t, s, noLocals(), 6)
	good(t, "Stub", s.Stub(4, 5, 6))
	expectValues(t, s, 6, 4, 5, 6, begin)
	good(t, "Stub", s.Stub(7, 8, 9))
	expectValues(t, s, 6, 4, 5, 6, begin, 7, 8, 9, begin)
	expectUnstub(t, s, 7, 8, 9)
	expectUnstub(t, s, 4, 5, 6)
	expectNoStub(t, s, api.FatalUnder)
	expectValues(t, s, 6)
	f, ok := s.Frame()
	same(t, "Frame", f, begin)
	same(t, "Frame", ok, true)
}

func TestStubFillsTheStack(t *testing.T) {
	s := entered(t, 32, noLocals(), 1)
	good(t, "Stub", s.Stub(1, 2, 3))
	same(t, "Top", s.Top(), 32)
	expectRefused(t, "Stub", s, api.FatalOver, func() api.Errno { return s.Stub(1, 2, 3) })
	for size := 28; size < 32; size++ {
		s := entered(t, size, noLocals(), 1)
		expectRefused(t, "Stub", s, api.FatalOver, func() api.Errno { return s.Stub(1, 2, 3) })
		expectValues(t, s, 1)
	}
}

func TestUnstubWithFrame(t *testing.T) {
	for _, l := range [][]uint32{nil, {0}, {0, 0, 0}, {1, 2, 3}} {
		expectNoStub(t, entered(t, 100, example(), l...), api.FatalUnder)
	}
	for _, x := range []uint32{1, 4, 12, 28, 1 << 31, top32} {
		expectNoStub(t, entered(t, 100, example(), 0, 0, 0, x), api.FatalFrame)
		expectNoStub(t, entered(t, 100, example(), 0, 0, 0, 0, x), api.FatalFrame)
	}
	// Four values of which the top one tells the frame are one.
	s := entered(t, 100, example(), 9, 8, 7, 6, 0)
	expectUnstub(t, s, 8, 7, 6)
	expectValues(t, s, 9)
	// The frame below has a stub on top, but is not the current one.
	s = entered(t, 100, noLocals())
	called(t, s, noLocals())
	expectNoStub(t, s, api.FatalUnder)
	pushed(t, s, 1, 2, 3, 0)
	expectNoStub(t, s, api.FatalFrame)
}

func TestUnstubWithoutFrame(t *testing.T) {
	s := made(t, 200)
	expectNoStub(t, s, api.ErrNone)
	good(t, "Enter", s.Enter(example()))
	good(t, "Leave", s.Leave())
	expectNoStub(t, s, api.ErrNone)
	good(t, "Enter", s.Enter(example()))
	pushed(t, s, 5)
	first := s.Copy()
	begin := called(t, s, mixed(), 6)
	second := s.Copy()
	good(t, "Stub", s.Stub(0x84000001, 12, 0x95000002))
	good(t, "Enter", s.Enter(noLocals()))
	good(t, "Leave", s.Leave())
	expectUnstub(t, s, 0x84000001, 12, 0x95000002)
	expectSame(t, "in the second frame", s, second)
	f, _ := s.Frame()
	same(t, "Frame", f, begin)
	good(t, "Leave", s.Leave())
	expectUnstub(t, s, 1, 2, 3)
	expectSame(t, "in the first frame", s, first)
	expectNoStub(t, s, api.FatalUnder)
}

func TestUnstubOnlyTheTopOne(t *testing.T) {
	s := entered(t, 200, noLocals())
	good(t, "Stub", s.Stub(1, 2, 3))
	called(t, s, noLocals())
	good(t, "Leave", s.Leave())
	expectUnstub(t, s, 1, 2, 3)
	expectValues(t, s, 1, 2, 3, 0)
	expectUnstub(t, s, 1, 2, 3)
	expectValues(t, s)
}
