package exec

import (
	"testing"

	"grotto/api"
)

// modesOf: for a group of modes its three ones, or its one.
func modesOf(base int) []int {
	return []int{base, base + 1, base + 2}
}

func TestLoadedByEachMode(t *testing.T) {
	for _, x := range []struct {
		mode int
		v    uint32
		want uint32
	}{
		{api.ModeZero, 0, 0},
		{api.ModeConst1, 0x7f, 0x7f}, {api.ModeConst1, top, top}, {api.ModeConst1, 1<<32 - 128, 1<<32 - 128},
		{api.ModeConst2, 0x7fff, 0x7fff}, {api.ModeConst2, 1<<32 - 32768, 1<<32 - 32768},
		{api.ModeConst4, 0x12345678, 0x12345678}, {api.ModeConst4, big, big},
		{api.ModeAddr1, 0, 0x476c756c}, {api.ModeAddr1, 8, ramAt},
		{api.ModeAddr2, 0x900, 0x01020304}, {api.ModeAddr2, 0x901, 0x02030405}, {api.ModeAddr2, memEnd - 4, 0},
		{api.ModeAddr4, 0x900, 0x01020304}, {api.ModeAddr4, memEnd - 4, 0},
		{api.ModeRam1, 0x80, 0xaabbccdd},
		{api.ModeRam2, 0x100, 0x01020304}, {api.ModeRam2, memEnd - ramAt - 4, 0},
		{api.ModeRam4, 0x100, 0x01020304}, {api.ModeRam4, 1<<32 - ramAt, 0x476c756c}, {api.ModeRam4, 1<<32 - ramAt + 8, ramAt}, {api.ModeRam4, 1<<32 - 0x100, 0},
		{api.ModeLocal1, 4, 0x11223344}, {api.ModeLocal2, 4, 0x11223344}, {api.ModeLocal4, 4, 0x11223344},
		{api.ModeLocal1, 5, 0x22334400}, {api.ModeLocal1, 12, 0},
		{api.ModeStack, 0, 0xcafe},
	} {
		m := machine(t, laid{0x880: {0xaa, 0xbb, 0xcc, 0xdd}, 0x900: {1, 2, 3, 4, 5}},
			in("copy", c(0x11223344), local(4)), in("copy", c(77), sp), in("copy", c(0xcafe), sp),
			in("copy", operand(x.mode, x.v), at(0xa00)))
		steps(t, m, 4)
		hasWord(t, m, 0xa00, x.want)
		if x.mode == api.ModeStack {
			hasValues(t, m, 77)
		} else {
			hasValues(t, m, 0xcafe, 77)
		}
	}
}

func TestLoadedThatIsNotThere(t *testing.T) {
	for _, x := range []struct {
		o    api.Operand
		want api.Errno
	}{
		{at(memEnd - 4), api.OK}, {at(memEnd - 3), api.FatalRead}, {at(memEnd), api.FatalRead}, {at(top), api.FatalRead}, {at(big), api.FatalRead},
		{ram(memEnd - ramAt - 4), api.OK}, {ram(memEnd - ramAt - 3), api.FatalRead}, {ram(1<<32 - ramAt - 1), api.FatalRead}, {ram(1<<32 - ramAt), api.OK}, {ram(big), api.FatalRead},
		{local(12), api.OK}, {local(13), api.FatalLocal}, {local(16), api.FatalLocal}, {local(top), api.FatalLocal}, {local(top - 3), api.FatalLocal},
		{sp, api.FatalUnder},
	} {
		m := machine(t, nil, in("copy", x.o, none), in("nop"))
		if x.want == api.OK {
			steps(t, m, 1)
		} else {
			fails(t, m, x.want)
		}
	}
}

func TestStoredByEachMode(t *testing.T) {
	const x = 0x89abcdef
	for _, mode := range modesOf(api.ModeAddr1) {
		// An address of one byte is not one that may be written.
		if mode == api.ModeAddr1 {
			m := machine(t, nil, in("copy", c(x), operand(mode, 255)))
			fails(t, m, api.FatalWrite)
			continue
		}
		m := machine(t, nil, in("copy", c(x), operand(mode, 0x901)))
		steps(t, m, 1)
		hasWord(t, m, 0x901, x)
		hasWord(t, m, 0x8fd, 0)
		hasWord(t, m, 0x905, 0)
	}
	for _, mode := range modesOf(api.ModeRam1) {
		m := machine(t, nil, in("copy", c(x), operand(mode, 0x91)))
		steps(t, m, 1)
		hasWord(t, m, 0x891, x)
	}
	for _, mode := range modesOf(api.ModeLocal1) {
		m := machine(t, nil, in("copy", c(x), operand(mode, 8)))
		steps(t, m, 1)
		hasLocal(t, m, 8, x)
		hasLocal(t, m, 4, 0)
		hasLocal(t, m, 12, 0)
	}
	m := machine(t, nil, in("copy", c(x), sp), in("copy", c(x), none))
	steps(t, m, 1)
	hasValues(t, m, x)
	before := m.Memory().Bytes()
	steps(t, m, 1)
	hasValues(t, m, x)
	if string(before) != string(m.Memory().Bytes()) {
		t.Error("nowhere is somewhere")
	}
}

func TestStoredWhereItMayNotBe(t *testing.T) {
	for _, x := range []struct {
		o    api.Operand
		want api.Errno
	}{
		{at(ramAt), api.OK}, {at(ramAt - 1), api.FatalWrite}, {at(0), api.FatalWrite}, {at(memEnd - 4), api.OK}, {at(memEnd - 3), api.FatalWrite}, {at(top), api.FatalWrite},
		{ram(0), api.OK}, {ram(top), api.FatalWrite}, {ram(1<<32 - ramAt), api.FatalWrite}, {ram(memEnd - ramAt - 4), api.OK}, {ram(memEnd - ramAt - 3), api.FatalWrite}, {ram(big), api.FatalWrite},
		{local(12), api.OK}, {local(13), api.FatalLocal}, {local(top), api.FatalLocal},
	} {
		m := machine(t, nil, in("copy", c(5), x.o), in("nop"))
		if x.want == api.OK {
			steps(t, m, 1)
		} else {
			fails(t, m, x.want)
		}
	}
}

func TestStoredOnAFullStack(t *testing.T) {
	// A frame of 28 bytes leaves room for 57 values.
	m := begun(t, gameBytes(t, 256, laid{start: fun(t, api.FuncLocals, locals(4), in("copy", c(5), sp), in("jump", c(1<<32-10)))}), world(t))
	n, e := m.Run(1000)
	if n != 2*57 || e != api.FatalOver || m.Stack().Count() != 57 || m.Stack().Top() != 256 {
		t.Error(n, e, m.Stack().Count())
	}
}

func TestLeftToRight(t *testing.T) {
	m := machine(t, nil,
		in("copy", c(3), sp), in("copy", c(10), sp),
		in("sub", sp, sp, sp), // the top one is the first
		in("copy", c(8), sp), in("copy", c(16), sp), in("copy", c(32), sp),
		in("callfii", sp, sp, sp, local(0)), // of what is no function
	)
	steps(t, m, 3)
	hasValues(t, m, 7)
	steps(t, m, 3)
	// The error of the function that is not there comes behind all three operands, and its stub.
	if e := m.Step(); e != api.FatalFunc {
		t.Error(e)
	}
	if m.Stack().Count() != 1+4 {
		t.Error(values(t, m))
	}
	// The first operand's error comes first.
	fails(t, machine(t, nil, in("add", local(99), at(top), sp)), api.FatalLocal)
	fails(t, machine(t, nil, in("add", at(top), local(99), sp)), api.FatalRead)
	fails(t, machine(t, nil, in("add", sp, local(99), sp)), api.FatalUnder)
	// What is loaded comes ahead of what is done, and that ahead of what is stored.
	fails(t, machine(t, nil, in("div", c(1), none, at(0))), api.ErrZero)
	fails(t, machine(t, nil, in("catch", local(99), sp)), api.FatalUnder)
}

func TestTwoAnswersFromLeftToRight(t *testing.T) {
	m := machine(t, nil, in("setiosys", c(1), c(99)), in("getiosys", sp, sp), in("getiosys", local(0), local(0)), in("getiosys", none, local(4)), in("getiosys", local(8), none))
	steps(t, m, 5)
	hasValues(t, m, 99, 1)
	hasLocal(t, m, 0, 99)
	hasLocal(t, m, 4, 99)
	hasLocal(t, m, 8, 1)
	// The first place is refused: the second one has nothing.
	m = machine(t, nil, in("setiosys", c(1), c(99)), in("getiosys", at(0), sp))
	steps(t, m, 1)
	fails(t, m, api.FatalWrite)
	hasValues(t, m)
}

func TestCopiesOfTwoBytesAndOne(t *testing.T) {
	for _, x := range []struct {
		name      string
		n         uint32
		c, mem    uint32 // of the constant 0x11223344, and what memory has at 0x900
		local     uint32 // of a local with 0xa1a2a3a4
		inMemory  uint32 // behind a copy of 0x11223344 over 0xffffffff
		wantStack uint32
	}{
		{"copys", 2, 0x3344, 0x0102, 0xa1a2, 0x3344ffff, 0x3344},
		{"copyb", 1, 0x44, 0x01, 0xa1, 0x44ffffff, 0x44},
		{"copy", 4, 0x11223344, 0x01020304, 0xa1a2a3a4, 0x11223344, 0x11223344},
	} {
		m := machine(t, laid{0x900: {1, 2, 3, 4}, 0xa00: {0xff, 0xff, 0xff, 0xff}, 0xa04: {0xff, 0xff, 0xff, 0xff}},
			in("copy", c(0xa1a2a3a4), local(0)), in("copy", c(top), local(4)), in("copy", c(0x11223344), sp),
			in(x.name, sp, sp),
			in(x.name, c(0x11223344), sp),
			in(x.name, at(0x900), sp),
			in(x.name, ram(0x100), sp),
			in(x.name, local(0), sp),
			in(x.name, none, sp),
			in(x.name, c(0x11223344), at(0xa00)),
			in(x.name, c(0x11223344), ram(0x204)),
			in(x.name, c(0x11223344), local(4)),
			in(x.name, c(0x11223344), none),
		)
		steps(t, m, 13)
		hasValues(t, m, 0, x.local, x.mem, x.mem, x.c, x.wantStack)
		hasWord(t, m, 0xa00, x.inMemory)
		hasWord(t, m, 0xa04, x.inMemory)
		hasLocal(t, m, 4, x.inMemory)
		hasLocal(t, m, 0, 0xa1a2a3a4)
		// From memory to memory, and at the last place where there is room for so few bytes.
		m = machine(t, laid{0x900: {1, 2, 3, 4}}, in(x.name, at(0x900), at(memEnd-x.n)), in(x.name, at(memEnd-x.n), local(16-x.n)), in(x.name, local(16-x.n), sp))
		steps(t, m, 3)
		hasValues(t, m, x.mem)
		fails(t, machine(t, nil, in(x.name, at(memEnd-x.n+1), none)), api.FatalRead)
		fails(t, machine(t, nil, in(x.name, c(1), at(memEnd-x.n+1))), api.FatalWrite)
		fails(t, machine(t, nil, in(x.name, c(1), at(ramAt-1))), api.FatalWrite)
		fails(t, machine(t, nil, in(x.name, local(17-x.n), none)), api.FatalLocal)
		fails(t, machine(t, nil, in(x.name, c(1), local(17-x.n))), api.FatalLocal)
		fails(t, machine(t, nil, in(x.name, sp, none)), api.FatalUnder)
	}
}

func TestDecodeOfAStep(t *testing.T) {
	// What is no instruction, a mode that may not be, and what ends too early.
	for _, x := range []struct {
		b    []byte
		want api.Errno
	}{
		{[]byte{0x0f}, api.FatalOpcode}, {[]byte{0x81, 0x05}, api.FatalOpcode}, {[]byte{0xc0, 1, 0, 0}, api.FatalOpcode},
		{[]byte{0x40, 0x12}, api.FatalMode}, {[]byte{0x40, 0x04}, api.FatalMode}, {[]byte{0x40, 0xc0}, api.FatalMode},
	} {
		m := machine(t, laid{first: x.b})
		fails(t, m, x.want)
		hasPC(t, m, first)
	}
	// At the end of memory: each beginning of an instruction that is not whole.
	whole := lay(t, in("linearsearch", c(1), c(2), c(3), c(4), c(5), c(6), c(7), at(0x900)))
	if len(whole) != mostBytes-2 {
		t.Fatal(len(whole))
	}
	longest := append([]byte{0xc0, 0, 1, 0x50}, whole[2:]...)
	for n := range len(longest) {
		m := machine(t, nil, in("jumpabs", c(uint32(memEnd-n))))
		steps(t, m, 1)
		for i, b := range longest[:n] {
			if e := m.Memory().Write(uint32(memEnd-n+i), 1, uint32(b)); e != api.OK {
				t.Fatal(e)
			}
		}
		fails(t, m, api.FatalRead)
		hasPC(t, m, uint32(memEnd-n))
	}
	for _, pc := range []uint32{memEnd, memEnd + 1, big, top} {
		m := machine(t, nil, in("jumpabs", c(pc)))
		steps(t, m, 1)
		hasPC(t, m, pc)
		fails(t, m, api.FatalRead)
		hasPC(t, m, pc)
	}
	// The longest one there is, whole, at the end.
	m := machine(t, nil, in("jumpabs", c(uint32(memEnd-len(longest)))))
	steps(t, m, 1)
	for i, b := range longest {
		m.Memory().Write(uint32(memEnd-len(longest)+i), 1, uint32(b))
	}
	set4(t, m, 0x900, 7)
	steps(t, m, 1)
	hasWord(t, m, 0x900, top)
	hasPC(t, m, memEnd)
}

func TestNumbersInMoreBytes(t *testing.T) {
	m := machine(t, laid{first: {0x80, 0x40, 0x81, 5, 0xc0, 0, 0, 0x40, 0x81, 6, 0xc0, 0, 1, 0x20}})
	steps(t, m, 1)
	hasPC(t, m, first+4)
	steps(t, m, 1)
	hasPC(t, m, first+10)
	hasValues(t, m, 6, 5)
	ends(t, m)
}

func TestCodeThatIsWritten(t *testing.T) {
	// What is done next is what lies in memory now.
	m := machine(t, nil, in("copy", c(0x40810581), at(0x900)), in("copy", c(0x20000000), at(0x904)), in("jumpabs", c(0x900)))
	steps(t, m, 3)
	m.Memory().Write(0x903, 1, 0x81)
	m.Memory().Write(0x904, 1, 0x20)
	steps(t, m, 1)
	hasValues(t, m, 5)
	ends(t, m)
}
