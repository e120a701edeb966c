package code

import (
	"bytes"
	"math"
	"math/rand"
	"slices"
	"strings"
	"testing"

	"grotto/api"
)

// P11.1

func TestEachInstructionOfTheList(t *testing.T) {
	l := list()
	if len(l) != 130 {
		t.Fatal(len(l))
	}
	for _, x := range l {
		if s, ok := Signature(x.op); s != x.letters || !ok {
			t.Errorf("Signature(%x): %q, %v; want %q", x.op, s, ok, x.letters)
		}
		if name := Name(x.op); name != x.name {
			t.Errorf("Name(%x): %q; want %q", x.op, name, x.name)
		}
		if op, ok := Op(x.name); op != x.op || !ok {
			t.Errorf("Op(%q): %x, %v; want %x", x.name, op, ok, x.op)
		}
	}
}

func TestNumbersThatAreNone(t *testing.T) {
	m := byNumber()
	none := []uint32{0x8010, 0x8100, 0xc010, 0x10010, 0x1000010, 0x10000010, 0x40000010, 0x80000010, 0xc0000000, 0xc0000010, 0xfffffff, 1 << 31, top32 - 0xf, top32}
	for op := range uint32(0x4100) {
		if _, ok := m[op]; !ok {
			none = append(none, op)
		}
	}
	if len(none) != 0x4100-130+14 {
		t.Fatal(len(none))
	}
	for _, op := range none {
		if s, ok := Signature(op); s != "" || ok {
			t.Errorf("Signature(%x): %q, %v", op, s, ok)
		}
		if name := Name(op); name != "" {
			t.Errorf("Name(%x): %q", op, name)
		}
	}
}

func TestNamesThatAreNone(t *testing.T) {
	for _, x := range list() {
		for _, name := range []string{x.name + " ", " " + x.name, x.name + "\x00", strings.ToUpper(x.name), x.name + x.name, "@" + x.name} {
			if op, ok := Op(name); op != 0 || ok {
				t.Errorf("Op(%q): %x, %v", name, op, ok)
			}
		}
	}
	for _, name := range []string{"", "L", "LLS", "no", "jl", "ad", "dd", "pow", "log", "exp", "sin", "jisnum", "fmodr", "dmod", "copyw", "\xff", strings.Repeat("add", 10000)} {
		if op, ok := Op(name); op != 0 || ok {
			t.Errorf("Op(%.20q): %x, %v", name, op, ok)
		}
	}
}

// P11.2

// expectBothWays: the bytes are the instruction, and the other way round.
func expectBothWays(t *testing.T, b []byte, in api.Instr) {
	t.Helper()
	expectDecode(t, b, 0, in, len(b), api.OK)
	expectEncode(t, in, b)
}

func args(l ...api.Operand) []api.Operand {
	return l
}

func TestLaid(t *testing.T) {
	expectBothWays(t, []byte{0x10, 0x81, 0x08, 0x05}, api.Instr{Op: 0x10, Args: args(api.Operand{Mode: 1, Value: 5}, api.Operand{Mode: 8}, api.Operand{Mode: 8})})
	expectBothWays(t, []byte{0x81, 0x02, 0x08}, api.Instr{Op: 0x102, Args: args(api.Operand{Mode: 8})})
	expectBothWays(t, []byte{0x00}, api.Instr{})
	expectBothWays(t, []byte{0x52}, api.Instr{Op: 0x52})
	expectBothWays(t, []byte{0x81, 0x20}, api.Instr{Op: 0x120})
	expectBothWays(t, []byte{0x31, 0x00}, api.Instr{Op: 0x31, Args: args(api.Operand{})})
	expectBothWays(t, []byte{0x73, 0x03, 0x00, 0x01, 0xf6, 0x42}, api.Instr{Op: 0x73, Args: args(api.Operand{Mode: 3, Value: 0x1f642})})
	expectBothWays(t, []byte{0x40, 0x52, 0xff, 0xfe, 0xfd}, api.Instr{Op: 0x40, Args: args(api.Operand{Mode: 2, Value: 0xfffffffe}, api.Operand{Mode: 5, Value: 0xfd})})
	expectBothWays(t, []byte{0x32, 0x1d, 0x80, 0x7f}, api.Instr{Op: 0x32, Args: args(api.Operand{Mode: 13, Value: 0x80}, api.Operand{Mode: 1, Value: 0x7f})})
	expectBothWays(t, []byte{0x81, 0x48, 0xea, 0x01, 0x02, 0x03, 0x04}, api.Instr{Op: 0x148, Args: args(api.Operand{Mode: 10, Value: 0x102}, api.Operand{Mode: 14, Value: 0x304})})
}

func TestEightOperands(t *testing.T) {
	b := []byte{0x81, 0x50, 0x51, 0x39, 0x70, 0xfe, 1, 5, 9, 0x80, 0, 0, 3, 7, 7, 7, 7, 14, 14, 15, 15, 15, 15}
	expectBothWays(t, b, api.Instr{Op: 0x150, Args: args(
		api.Operand{Mode: 1, Value: 1}, api.Operand{Mode: 5, Value: 5}, api.Operand{Mode: 9, Value: 9}, api.Operand{Mode: 3, Value: 0x80000003},
		api.Operand{Mode: 0}, api.Operand{Mode: 7, Value: 0x07070707}, api.Operand{Mode: 14, Value: 0x0e0e}, api.Operand{Mode: 15, Value: 0x0f0f0f0f},
	)})
}

// oneMode: a jump by that operand.
func oneMode(mode int, v uint32) api.Instr {
	return api.Instr{Op: 0x20, Args: args(api.Operand{Mode: mode, Value: v})}
}

func TestLeastAndGreatestOfEachMode(t *testing.T) {
	for _, c := range []struct {
		mode int
		v    uint32
		b    []byte
	}{
		{api.ModeZero, 0, nil},
		{api.ModeStack, 0, nil},
		{api.ModeConst1, 0, []byte{0}},
		{api.ModeConst1, 127, []byte{0x7f}},
		{api.ModeConst1, 1<<32 - 128, []byte{0x80}},
		{api.ModeConst1, top32, []byte{0xff}},
		{api.ModeConst2, 0, []byte{0, 0}},
		{api.ModeConst2, 0x80, []byte{0, 0x80}},
		{api.ModeConst2, 32767, []byte{0x7f, 0xff}},
		{api.ModeConst2, 1<<32 - 32768, []byte{0x80, 0}},
		{api.ModeConst2, top32, []byte{0xff, 0xff}},
		{api.ModeConst4, 0, []byte{0, 0, 0, 0}},
		{api.ModeConst4, 0x8000, []byte{0, 0, 0x80, 0}},
		{api.ModeConst4, 1<<31 - 1, []byte{0x7f, 0xff, 0xff, 0xff}},
		{api.ModeConst4, 1 << 31, []byte{0x80, 0, 0, 0}},
		{api.ModeConst4, top32, []byte{0xff, 0xff, 0xff, 0xff}},
		{api.ModeAddr1, 0, []byte{0}},
		{api.ModeAddr1, 0x80, []byte{0x80}},
		{api.ModeAddr1, 255, []byte{0xff}},
		{api.ModeAddr2, 0, []byte{0, 0}},
		{api.ModeAddr2, 0x8000, []byte{0x80, 0}},
		{api.ModeAddr2, 65535, []byte{0xff, 0xff}},
		{api.ModeAddr4, 0, []byte{0, 0, 0, 0}},
		{api.ModeAddr4, 0x01020304, []byte{1, 2, 3, 4}},
		{api.ModeAddr4, top32, []byte{0xff, 0xff, 0xff, 0xff}},
		{api.ModeLocal1, 0, []byte{0}},
		{api.ModeLocal1, 255, []byte{0xff}},
		{api.ModeLocal2, 0, []byte{0, 0}},
		{api.ModeLocal2, 65535, []byte{0xff, 0xff}},
		{api.ModeLocal4, 0, []byte{0, 0, 0, 0}},
		{api.ModeLocal4, top32, []byte{0xff, 0xff, 0xff, 0xff}},
		{api.ModeRam1, 0, []byte{0}},
		{api.ModeRam1, 255, []byte{0xff}},
		{api.ModeRam2, 0, []byte{0, 0}},
		{api.ModeRam2, 65535, []byte{0xff, 0xff}},
		{api.ModeRam4, 0, []byte{0, 0, 0, 0}},
		{api.ModeRam4, top32, []byte{0xff, 0xff, 0xff, 0xff}},
	} {
		expectBothWays(t, append([]byte{0x20, byte(c.mode)}, c.b...), oneMode(c.mode, c.v))
	}
}

func TestEachModeForEachLetter(t *testing.T) {
	const op = 0x40 // copy LS
	for load := range 16 {
		for store := range 16 {
			b := []byte{op, byte(load | store<<4), 1, 2, 3, 4, 5, 6, 7, 8}
			expectDecoded(t, b, 0)
			_, _, e := Decode(b, 0)
			good := load != 4 && load != 12 && store != 4 && store != 12 && (store < 1 || store > 3)
			if want := map[bool]api.Errno{true: api.OK, false: api.FatalMode}[good]; e != want {
				t.Errorf("modes %d, %d: %d", load, store, e)
			}
			in := api.Instr{Op: op, Args: args(api.Operand{Mode: load}, api.Operand{Mode: store})}
			if expectEncoded(t, in) != good {
				t.Errorf("modes %d, %d laid: %v", load, store, !good)
			}
		}
	}
}

func TestHigherBitsBehindTheLastMode(t *testing.T) {
	for spare := range byte(16) {
		expectDecode(t, []byte{0x20, spare<<4 | 1, 0x85}, 0, oneMode(1, 0xffffff85), 3, api.OK)
		expectDecode(t, []byte{0x10, 0x80, spare<<4 | 8, 0x85}, 0, api.Instr{Op: 0x10, Args: args(api.Operand{}, api.Operand{Mode: 8}, api.Operand{Mode: 8})}, 3, api.OK)
		expectDecode(t, []byte{0x81, 0x02, spare << 4}, 0, api.Instr{Op: 0x102, Args: args(api.Operand{})}, 3, api.OK)
		expectRefused(t, []byte{0x20, spare<<4 | 4}, 0, api.FatalMode)
	}
	// Without operands there is no byte for modes.
	expectDecode(t, []byte{0x00, 0x44}, 0, api.Instr{}, 1, api.OK)
}

// P11.3

func TestNumberInOneTwoFourBytes(t *testing.T) {
	m := byNumber()
	for op := range uint32(0x300) {
		for _, size := range sizes(op) {
			x, ok := m[op]
			modes := make([]int, len(x.letters))
			b := laid(op, size, 0, modes, make([]int64, len(modes)))
			if ok {
				expectDecode(t, b, 0, instrOf(op, modes, make([]int64, len(modes))), len(b), api.OK)
			} else {
				expectRefused(t, append(b, make([]byte, 20)...), 0, api.FatalOpcode)
			}
		}
	}
}

func TestNumbersAtTheEdges(t *testing.T) {
	behind := []byte{0, 0, 0, 0, 0, 0, 0, 0}
	for _, b := range [][]byte{
		{0x7f},                     // the greatest in one byte
		{0x80, 0x7f}, {0x80, 0x80}, // in two
		{0xbf, 0xff},             // 3fff
		{0xc0, 0, 0x3f, 0xff},    // the same in four
		{0xc0, 0, 0x40, 0},       // 4000
		{0xcf, 0xff, 0xff, 0xff}, // fffffff
		{0xd0, 0, 0, 0x10},       // beyond it
		{0xe0, 0, 0, 0x10},
		{0xf0, 0, 0, 0x10},
		{0xff, 0xff, 0xff, 0xff},
		{0xc0, 0, 0x80, 0x10},
		{0xc0, 0, 1, 0x05},
		{0xc1, 0, 0, 0x10},
		{0xc0, 1, 0, 0x10},
		{0x90, 0x10},
		{0xa0, 0x00},
	} {
		expectRefused(t, append(slices.Clone(b), behind...), 0, api.FatalOpcode)
	}
	expectDecode(t, append([]byte{0x80, 0x00}, behind...), 0, api.Instr{}, 2, api.OK)
	expectDecode(t, append([]byte{0xc0, 0, 0, 0}, behind...), 0, api.Instr{}, 4, api.OK)
	expectDecode(t, append([]byte{0x80, 0x73}, behind...), 0, api.Instr{Op: 0x73, Args: args(api.Operand{})}, 3, api.OK)
	expectDecode(t, append([]byte{0xc0, 0, 2, 0x39}, behind...), 0, api.Instr{Op: 0x239, Args: args(api.Operand{}, api.Operand{}, api.Operand{})}, 6, api.OK)
}

func TestPlaces(t *testing.T) {
	b := []byte{0x00, 0x10, 0x81, 0x08, 0x05, 0x52}
	add := api.Instr{Op: 0x10, Args: args(api.Operand{Mode: 1, Value: 5}, api.Operand{Mode: 8}, api.Operand{Mode: 8})}
	expectDecode(t, b, 0, api.Instr{}, 1, api.OK)
	expectDecode(t, b, 1, add, 4, api.OK)
	expectDecode(t, b, 5, api.Instr{Op: 0x52}, 1, api.OK)
	for _, at := range []int{6, 7, 8, 1 << 31, 1 << 32, math.MaxInt - 3, math.MaxInt} {
		expectRefused(t, b, at, api.FatalRead)
		expectRefused(t, nil, at, api.FatalRead)
	}
	for _, at := range []int{-1, -2, -5, -6, -7, -1 << 31, -1 << 32, math.MinInt} {
		expectRefused(t, b, at, api.ErrArg)
		expectRefused(t, nil, at, api.ErrArg)
		expectRefused(t, []byte{0x0f}, at, api.ErrArg)
	}
	expectRefused(t, nil, 0, api.FatalRead)
	expectRefused(t, []byte{}, 0, api.FatalRead)
}

func TestBytesThatEnd(t *testing.T) {
	for _, b := range [][]byte{
		{0x80}, {0x81}, {0xbf}, {0xc0}, {0xc0, 0}, {0xc0, 0, 0}, {0xff}, {0xff, 0xff, 0xff}, // within the number
		{0x20}, {0x10}, {0x10, 0x00}, {0x10, 0x81}, {0x81, 0x50, 0, 0, 0}, {0xc0, 0, 0, 0x10, 0x00}, {0x81, 0x02}, // within the modes
		{0x20, 1}, {0x20, 2, 0}, {0x20, 2}, {0x20, 3, 0, 0, 0}, {0x20, 3, 0, 0}, {0x20, 3, 0}, {0x20, 3}, // within an operand
		{0x20, 5}, {0x20, 6, 0}, {0x20, 7, 0, 0, 0}, {0x20, 9}, {0x20, 10, 0}, {0x20, 11, 0, 0, 0}, {0x20, 13}, {0x20, 14, 0}, {0x20, 15, 0, 0, 0},
		{0x40, 0x51, 1}, {0x40, 0x53, 1, 2, 3, 4}, {0x40, 0x73, 1, 2, 3, 4, 5, 6, 7}, {0x10, 0x11, 0x05, 1, 2}, {0x10, 0x81, 0x08},
	} {
		expectRefused(t, b, 0, api.FatalRead)
		expectRefused(t, append([]byte{0, 0}, b...), 2, api.FatalRead)
	}
}

func TestEachInstructionCutShort(t *testing.T) {
	r := rand.New(rand.NewSource(113))
	for _, x := range list() {
		for _, size := range sizes(x.op) {
			_, modes, values := someInstr(r, []listed{x})
			b := laid(x.op, size, byte(r.Intn(16)), modes, values)
			expectDecode(t, b, 0, instrOf(x.op, modes, values), len(b), api.OK)
			for n := range b {
				expectRefused(t, b[:n], 0, api.FatalRead)
			}
		}
	}
}

func TestFirstErrorOfDecode(t *testing.T) {
	for _, c := range []struct {
		b  []byte
		at int
		e  api.Errno
	}{
		{[]byte{0x8f}, -1, api.ErrArg},
		{[]byte{0x8f}, 0, api.FatalRead},                         // the number ends, ahead of there being none with it
		{[]byte{0x8f, 0x00}, 0, api.FatalOpcode},                 // none, ahead of the modes that are not there
		{[]byte{0x0f}, 0, api.FatalOpcode},                       //
		{[]byte{0x0f, 0x44}, 0, api.FatalOpcode},                 // ahead of modes that may not be
		{[]byte{0x10, 0x44}, 0, api.FatalRead},                   // the modes end, ahead of what they are
		{[]byte{0x81, 0x50, 0x44, 0xcc, 0x44}, 0, api.FatalRead}, //
		{[]byte{0x10, 0x04, 0x00}, 0, api.FatalMode},             //
		{[]byte{0x40, 0x13}, 0, api.FatalMode},                   // a mode, ahead of the first operand that is not there
		{[]byte{0x40, 0x43}, 0, api.FatalMode},                   //
		{[]byte{0x10, 0x33, 0x0c}, 0, api.FatalMode},             //
		{[]byte{0x10, 0x33, 0x02, 1, 2, 3, 4}, 0, api.FatalMode}, //
		{[]byte{0x40, 0x53}, 0, api.FatalRead},                   // all modes may be: the operand ends
		{[]byte{0x40, 0x12, 0x00}, 0, api.FatalMode},             //
		{[]byte{0x32, 0x51}, 0, api.FatalMode},                   // catch stores by its first one
		{[]byte{0x32, 0x15}, 0, api.FatalRead},                   //
	} {
		expectRefused(t, c.b, c.at, c.e)
	}
}

func TestDecodeByChance(t *testing.T) {
	r := rand.New(rand.NewSource(1103))
	l := list()
	seen := map[api.Errno]int{}
	for range 40000 {
		x, modes, values := someInstr(r, l)
		b := laid(x.op, someOf(r, sizes(x.op)...), byte(r.Intn(16)), modes, values)
		for range r.Intn(4) {
			b[r.Intn(len(b))] = byte(r.Intn(256))
		}
		ahead := make([]byte, r.Intn(3))
		b = append(ahead, b[:someOf(r, len(b), r.Intn(len(b)+1))]...)
		at := someOf(r, len(ahead), len(ahead), len(ahead), r.Intn(len(b)+4)-2)
		expectDecoded(t, b, at)
		_, _, e := Decode(b, at)
		seen[e]++
	}
	for _, e := range []api.Errno{api.OK, api.ErrArg, api.FatalRead, api.FatalOpcode, api.FatalMode} {
		if seen[e] < 100 {
			t.Errorf("%d: %d times", e, seen[e])
		}
	}
}

func TestDecodeSharesNothing(t *testing.T) {
	b := []byte{9, 0x10, 0x11, 0x05, 1, 2, 3, 0x44, 0x44}
	was := slices.Clone(b)
	one, _, _ := Decode(b[:7], 1)
	two, _, _ := Decode(b[:7], 1)
	kept := slices.Clone(two.Args)
	for i := range one.Args[:cap(one.Args)] {
		one.Args[:cap(one.Args)][i] = api.Operand{Mode: 99, Value: 99}
	}
	if !slices.Equal(two.Args, kept) || !bytes.Equal(b, was) {
		t.Error(two, b)
	}
	clear(b)
	if !slices.Equal(two.Args, kept) {
		t.Error(two)
	}
}

// P11.4

func TestNumberInAsFewBytesAsMayBe(t *testing.T) {
	for _, x := range list() {
		in := instrOf(x.op, make([]int, len(x.letters)), make([]int64, len(x.letters)))
		b, e := Encode(in)
		want := []byte{byte(x.op)}
		if x.op >= 0x80 {
			want = []byte{0x80 | byte(x.op>>8), byte(x.op)}
		}
		want = append(want, make([]byte, (len(x.letters)+1)/2)...)
		if !bytes.Equal(b, want) || e != api.OK {
			t.Errorf("Encode(%x): %x, %d; want %x", in, b, e, want)
		}
	}
}

func TestNumbersThatAreNotLaid(t *testing.T) {
	m := byNumber()
	for op := range uint32(0x300) {
		if _, ok := m[op]; ok {
			continue
		}
		for n := range 9 {
			expectNotLaid(t, api.Instr{Op: op, Args: make([]api.Operand, n)})
		}
	}
	for _, op := range []uint32{0x3fff, 0x4000, 0x8010, 0xfffffff, 0x10000010, 0x80000010, 0xc0000010, top32} {
		for n := range 9 {
			expectNotLaid(t, api.Instr{Op: op, Args: make([]api.Operand, n)})
		}
	}
}

func TestTooFewAndTooManyOperands(t *testing.T) {
	for _, x := range list() {
		for n := range 20 {
			in := api.Instr{Op: x.op, Args: make([]api.Operand, n)}
			if laid := expectEncoded(t, in); laid != (n == len(x.letters)) {
				t.Errorf("%s with %d: %v", x.name, n, laid)
			}
		}
	}
}

func TestModesThatMayNotBe(t *testing.T) {
	for _, mode := range []int{4, 12, -1, -8, -15, -16, 16, 17, 24, 21, 256, 257, 264, 1 << 32, 1<<32 + 1, 1<<32 + 8, math.MaxInt, math.MinInt, math.MinInt + 8} {
		expectNotLaid(t, oneMode(mode, 0))
		expectNotLaid(t, api.Instr{Op: 0x10, Args: args(api.Operand{}, api.Operand{}, api.Operand{Mode: mode})})
		expectNotLaid(t, api.Instr{Op: 0x10, Args: args(api.Operand{}, api.Operand{Mode: mode}, api.Operand{})})
	}
	for _, x := range list() {
		for i := range x.letters {
			for _, mode := range []int{api.ModeConst1, api.ModeConst2, api.ModeConst4, 4, 12} {
				in := api.Instr{Op: x.op, Args: make([]api.Operand, len(x.letters))}
				in.Args[i].Mode = mode
				if laid := expectEncoded(t, in); laid != (mode < 4 && x.letters[i] == 'L') {
					t.Errorf("%s, %d at %d: %v", x.name, mode, i, laid)
				}
			}
		}
	}
}

func TestValuesBeyondTheMode(t *testing.T) {
	for _, c := range []struct {
		mode int
		l    []uint32
	}{
		{api.ModeZero, []uint32{1, 256, 1 << 31, top32}},
		{api.ModeStack, []uint32{1, 256, 1 << 31, top32}},
		{api.ModeConst1, []uint32{128, 255, 256, 1<<32 - 129, 1<<32 - 256, 1 << 31}},
		{api.ModeConst2, []uint32{32768, 65535, 65536, 1<<32 - 32769, 1<<32 - 65536, 1 << 31}},
		{api.ModeAddr1, []uint32{256, 65536, 1 << 31, top32, 1<<32 - 128}},
		{api.ModeAddr2, []uint32{65536, 1 << 31, top32, 1<<32 - 32768}},
		{api.ModeLocal1, []uint32{256, 65536, 1 << 31, top32, 1<<32 - 128}},
		{api.ModeLocal2, []uint32{65536, 1 << 31, top32, 1<<32 - 32768}},
		{api.ModeRam1, []uint32{256, 65536, 1 << 31, top32, 1<<32 - 128}},
		{api.ModeRam2, []uint32{65536, 1 << 31, top32, 1<<32 - 32768}},
	} {
		for _, v := range c.l {
			expectNotLaid(t, oneMode(c.mode, v))
			expectNotLaid(t, api.Instr{Op: 0x24, Args: args(api.Operand{}, api.Operand{Mode: c.mode, Value: v}, api.Operand{})})
			expectNotLaid(t, api.Instr{Op: 0x24, Args: args(api.Operand{}, api.Operand{}, api.Operand{Mode: c.mode, Value: v})})
		}
	}
}

func TestEncodeByChance(t *testing.T) {
	r := rand.New(rand.NewSource(1104))
	l := list()
	laid := map[bool]int{}
	for range 40000 {
		x, modes, values := someInstr(r, l)
		in := instrOf(x.op, modes, values)
		switch r.Intn(6) {
		case 0:
			in.Op = uint32(r.Intn(0x250))
		case 1:
			in.Args = append(in.Args, api.Operand{})[r.Intn(2):]
		case 2, 3:
			if len(in.Args) > 0 {
				in.Args[r.Intn(len(in.Args))].Value += someOf(r, 1, top32, 256, 65536, r.Uint32())
			}
		case 4:
			if len(in.Args) > 0 {
				in.Args[r.Intn(len(in.Args))].Mode = r.Intn(20) - 2
			}
		}
		laid[expectEncoded(t, in)]++
	}
	if laid[true] < 5000 || laid[false] < 5000 {
		t.Error(laid)
	}
}

func TestEncodeSharesNothing(t *testing.T) {
	full := args(api.Operand{Mode: 3, Value: 1}, api.Operand{Mode: 7, Value: 2}, api.Operand{Mode: 5, Value: 9}, api.Operand{Mode: 9, Value: 9})
	was := slices.Clone(full)
	in := api.Instr{Op: 0x40, Args: full[:2]}
	one, _ := Encode(in)
	two, _ := Encode(in)
	kept := slices.Clone(two)
	for i := range one[:cap(one)] {
		one[:cap(one)][i] = 0xee
	}
	if !bytes.Equal(two, kept) || !slices.Equal(full, was) {
		t.Error(two, full)
	}
	clear(full)
	if !bytes.Equal(two, kept) {
		t.Error(two)
	}
}

// P11.5

func expectHead(t *testing.T, b []byte, at, kind int, format []byte, n int, e api.Errno) {
	t.Helper()
	// The spare room is not looked at.
	given := append(slices.Clone(b), 0, 0, 0, 0)[:len(b)]
	k, f, m, err := Head(given, at)
	if k != kind || !bytes.Equal(f, format) || m != n || err != e {
		t.Errorf("Head(%x, %d): %x, %x, %d, %d; want %x, %x, %d, %d", b, at, k, f, m, err, kind, format, n, e)
	}
}

// pairs: a format of these pairs, with its 0 0.
func pairs(l ...byte) []byte {
	return append(slices.Clone(l), 0, 0)
}

func TestHeads(t *testing.T) {
	many := bytes.Repeat([]byte{4, 255, 1, 1, 2, 7}, 300)
	for _, kind := range []int{api.FuncStack, api.FuncLocals} {
		for _, format := range [][]byte{
			pairs(),
			pairs(4, 2),
			pairs(1, 1), pairs(2, 1), pairs(4, 1), pairs(1, 255), pairs(2, 255), pairs(4, 255),
			pairs(4, 2, 1, 3), pairs(1, 3, 2, 2, 4, 1), pairs(4, 1, 4, 1, 4, 1),
			pairs(many...),
		} {
			for _, ahead := range []int{0, 1, 2, 7} {
				for _, behind := range [][]byte{nil, {0}, {0, 0}, {4, 1, 0, 0}, {3, 3, 3}, {0xc0}} {
					b := slices.Concat(make([]byte, ahead), []byte{byte(kind)}, format, behind)
					expectHead(t, b, ahead, kind, format, 1+len(format), api.OK)
				}
			}
		}
	}
}

func TestFunctionsOfNeitherKind(t *testing.T) {
	for kind := range 256 {
		if kind != api.FuncStack && kind != api.FuncLocals {
			expectHead(t, []byte{byte(kind), 4, 1, 0, 0}, 0, 0, nil, 0, api.FatalFunc)
			expectHead(t, []byte{byte(kind)}, 0, 0, nil, 0, api.FatalFunc)
		}
	}
}

func TestFormatsThatAreNone(t *testing.T) {
	for _, kind := range []byte{api.FuncStack, api.FuncLocals} {
		for width := range 256 {
			for _, count := range []byte{0, 1, 2, 255} {
				good := count > 0 && (width == 1 || width == 2 || width == 4)
				if good || width == 0 && count == 0 {
					continue
				}
				expectHead(t, []byte{kind, byte(width), count, 0, 0}, 0, 0, nil, 0, api.FatalFunc)
				expectHead(t, []byte{kind, 4, 1, byte(width), count, 0, 0}, 0, 0, nil, 0, api.FatalFunc)
				expectHead(t, []byte{kind, byte(width), count, 4, 1, 0, 0, 0}, 0, 0, nil, 0, api.FatalFunc)
			}
		}
	}
}

func TestFormatsThatEndTooEarly(t *testing.T) {
	b := []byte{7, 0xc1, 4, 2, 1, 3, 2, 1, 0, 0}
	for n := 2; n < len(b); n++ {
		expectHead(t, b[:n], 1, 0, nil, 0, api.FatalFunc)
	}
	expectHead(t, b, 1, api.FuncLocals, b[2:], 9, api.OK)
	// 0 0 that does not begin where a pair does ends no format.
	expectHead(t, []byte{0xc0, 4, 0, 0}, 0, 0, nil, 0, api.FatalFunc)
	expectHead(t, []byte{0xc0, 4, 0, 0, 0}, 0, 0, nil, 0, api.FatalFunc)
	expectHead(t, []byte{0xc0, 0}, 0, 0, nil, 0, api.FatalFunc)
}

func TestPlacesOfHead(t *testing.T) {
	b := []byte{0xc0, 0, 0, 0xc1, 0, 0}
	expectHead(t, b, 0, api.FuncStack, []byte{0, 0}, 3, api.OK)
	expectHead(t, b, 3, api.FuncLocals, []byte{0, 0}, 3, api.OK)
	expectHead(t, b, 5, 0, nil, 0, api.FatalFunc)
	for _, at := range []int{6, 7, 1 << 31, 1 << 32, math.MaxInt - 1, math.MaxInt} {
		expectHead(t, b, at, 0, nil, 0, api.FatalRead)
		expectHead(t, nil, at, 0, nil, 0, api.FatalRead)
	}
	expectHead(t, nil, 0, 0, nil, 0, api.FatalRead)
	expectHead(t, []byte{}, 0, 0, nil, 0, api.FatalRead)
	for _, at := range []int{-1, -6, -1 << 31, -1 << 32, math.MinInt} {
		expectHead(t, b, at, 0, nil, 0, api.ErrArg)
		expectHead(t, nil, at, 0, nil, 0, api.ErrArg)
	}
}

func TestHeadSharesNothing(t *testing.T) {
	b := []byte{0xc1, 4, 2, 0, 0, 1, 2, 3, 4}
	was := slices.Clone(b)
	_, one, _, _ := Head(b[:5], 0)
	_, two, _, _ := Head(b[:5], 0)
	for i := range one[:cap(one)] {
		one[:cap(one)][i] = 0xee
	}
	if !bytes.Equal(two, was[1:5]) || !bytes.Equal(b, was) {
		t.Error(two, b)
	}
	clear(b)
	if !bytes.Equal(two, was[1:5]) {
		t.Error(two)
	}
}

// P11.6

func TestJumps(t *testing.T) {
	for _, c := range []struct {
		next, x, pc uint32
		back        bool
		v           uint32
	}{
		{100, 0, 0, true, 0},
		{100, 1, 0, true, 1},
		{0, 0, 0, true, 0},
		{top32, 1, 0, true, 1},
		{100, 2, 100, false, 0},
		{100, 3, 101, false, 0},
		{100, 12, 110, false, 0},
		{0, 2, 0, false, 0},
		{100, top32, 97, false, 0},
		{100, 1<<32 - 97, 1, false, 0},
		{100, 1<<32 - 98, 0, false, 0},
		{100, 1<<32 - 99, top32, false, 0},
		{100, 1 << 31, 1<<31 + 98, false, 0},
		{1 << 31, 1 << 31, top32 - 1, false, 0},
		{top32, 2, top32, false, 0},
		{top32, 3, 0, false, 0},
		{top32, 4, 1, false, 0},
		{top32, top32, top32 - 3, false, 0},
		{0, top32, top32 - 2, false, 0},
	} {
		if pc, back, v := Jump(c.next, c.x); pc != c.pc || back != c.back || v != c.v {
			t.Errorf("Jump(%d, %d): %d, %v, %d; want %d, %v, %d", c.next, c.x, pc, back, v, c.pc, c.back, c.v)
		}
	}
}

func TestJumpsByChance(t *testing.T) {
	r := rand.New(rand.NewSource(1106))
	for range 10000 {
		next := someOf(r, r.Uint32(), uint32(r.Intn(5)), top32-uint32(r.Intn(5)))
		x := someOf(r, r.Uint32(), uint32(r.Intn(5)), top32-uint32(r.Intn(5)))
		pc, back, v := Jump(next, x)
		if x < 2 {
			if pc != 0 || !back || v != x {
				t.Errorf("Jump(%d, %d): %d, %v, %d", next, x, pc, back, v)
			}
			continue
		}
		if want := (int64(next) + int64(x) - 2 + 1<<32) % (1 << 32); int64(pc) != want || back || v != 0 {
			t.Errorf("Jump(%d, %d): %d, %v, %d; want %d", next, x, pc, back, v, want)
		}
	}
}
