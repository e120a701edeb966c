package exec

import (
	"slices"
	"testing"

	"grotto/api"
)

// fAt is where the functions lie that are called here.
const (
	fAt = 0x300
	gAt = 0x380
)

func TestCallsOfEachKindWithEachNumberOfArguments(t *testing.T) {
	args := []uint32{0xa1, 0xa2, 0xa3}
	names := []string{"callf", "callfi", "callfii", "callfiii"}
	for n, name := range names {
		l := []api.Operand{c(fAt)}
		for _, a := range args[:n] {
			l = append(l, c(a))
		}
		r := in(name, append(l, sp)...)
		for nLocals := range byte(5) {
			m := machine(t, laid{fAt: fun(t, api.FuncLocals, locals(nLocals), in("return", c(77)))}, in("copy", c(5), sp), r, in("quit"))
			steps(t, m, 2)
			behind := uint32(first) + uint32(len(lay(t, in("copy", c(5), sp)))+len(lay(t, r)))
			if nLocals > 0 {
				hasPC(t, m, fAt+5)
			} else {
				hasPC(t, m, fAt+3)
			}
			hasValues(t, m)
			for i := range uint32(nLocals) {
				want := uint32(0)
				if int(i) < n {
					want = args[i]
				}
				hasLocal(t, m, 4*i, want)
			}
			// The stub: to the stack, no address, behind the call, the frame at 0.
			b := m.Stack().Bytes()
			stub := []byte{0, 0, 0, 3, 0, 0, 0, 0, 0, 0, byte(behind >> 8), byte(behind), 0, 0, 0, 0}
			if !slices.Equal(b[32:48], stub) {
				t.Errorf("%s: %v; want %v", name, b[32:48], stub)
			}
			steps(t, m, 1)
			hasPC(t, m, behind)
			hasValues(t, m, 77, 5)
			ends(t, m)
		}
		m := machine(t, laid{fAt: fun(t, api.FuncStack, locals(2), in("return", c(77)))}, r, in("quit"))
		steps(t, m, 1)
		hasPC(t, m, fAt+5)
		hasValues(t, m, append([]uint32{uint32(n)}, args[:n]...)...)
		hasLocal(t, m, 0, 0)
		steps(t, m, 1)
		hasValues(t, m, 77)
	}
}

func TestCallWithArgumentsFromTheStack(t *testing.T) {
	for _, kind := range []byte{api.FuncLocals, api.FuncStack} {
		for n := range uint32(6) {
			rows := []row{}
			for i := range n + 1 {
				rows = append(rows, in("copy", c(100+n-i), sp)) // the last one that is pushed is the first argument
			}
			rows = append(rows, in("call", c(fAt), c(n), local(0)), in("quit"))
			m := machine(t, laid{fAt: fun(t, kind, locals(3), in("return", c(77)))}, rows...)
			steps(t, m, int(n)+2)
			var want []uint32
			for i := range n {
				want = append(want, 100+i)
			}
			if kind == api.FuncStack {
				hasValues(t, m, append([]uint32{n}, want...)...)
				want = nil
			} else {
				hasValues(t, m)
			}
			for i := range uint32(3) {
				if int(i) < len(want) {
					hasLocal(t, m, 4*i, want[i])
				} else {
					hasLocal(t, m, 4*i, 0)
				}
			}
			steps(t, m, 1)
			hasValues(t, m, 100+n)
			hasLocal(t, m, 0, 77)
		}
	}
	fails(t, machine(t, nil, in("call", c(start), c(1), none)), api.FatalUnder)
	m := machine(t, nil, in("copy", c(1), sp), in("call", c(start), c(top), none))
	steps(t, m, 1)
	fails(t, m, api.FatalUnder)
}

func TestArgumentsInLocalsOfEachSize(t *testing.T) {
	m := machine(t, laid{fAt: fun(t, api.FuncLocals, []byte{1, 1, 2, 1, 4, 1}, in("return", none))}, in("callfiii", c(fAt), c(0x11223344), c(0x55667788), c(0x99aabbcc), none))
	steps(t, m, 1)
	hasLocal(t, m, 0, 0x44007788)
	hasLocal(t, m, 4, 0x99aabbcc)
}

func TestAnswersToEachPlace(t *testing.T) {
	for _, x := range []struct {
		o          api.Operand
		kind, addr uint32
	}{
		{none, 0, 0}, {at(0x900), 1, 0x900}, {ram(0x100), 1, 0x900}, {ram(1<<32 - 4), 1, ramAt - 4}, {local(8), 2, 8}, {sp, 3, 0}, {operand(api.ModeRam1, 0x10), 1, ramAt + 0x10}, {operand(api.ModeLocal1, 4), 2, 4},
	} {
		m := machine(t, laid{fAt: fun(t, api.FuncLocals, nil, in("return", c(0x12345678)))}, in("callf", c(fAt), x.o), in("quit"))
		pc := uint32(first + len(lay(t, in("callf", c(fAt), x.o))))
		steps(t, m, 1)
		var want []byte
		for _, n := range []uint32{x.kind, x.addr, pc, 0} {
			want = append(want, byte(n>>24), byte(n>>16), byte(n>>8), byte(n))
		}
		if b := m.Stack().Bytes()[28:44]; !slices.Equal(b, want) {
			t.Errorf("%v: %v; want %v", x.o, b, want)
		}
		if x.addr == ramAt-4 {
			fails(t, m, api.FatalWrite)
			continue
		}
		steps(t, m, 1)
		hasPC(t, m, pc)
		switch x.kind {
		case 1:
			hasWord(t, m, x.addr, 0x12345678)
			hasValues(t, m)
		case 2:
			hasLocal(t, m, x.addr, 0x12345678)
			hasValues(t, m)
		case 3:
			hasValues(t, m, 0x12345678)
		case 0:
			hasValues(t, m)
		}
	}
	// A local that is not there is found out when one goes back.
	m := machine(t, laid{fAt: fun(t, api.FuncLocals, nil, in("return", c(1)))}, in("callf", c(fAt), local(16)))
	steps(t, m, 1)
	fails(t, m, api.FatalLocal)
}

func TestAnswerToALocalIsTheCallersOwn(t *testing.T) {
	m := machine(t, laid{fAt: fun(t, api.FuncLocals, locals(2), in("copy", c(5), local(4)), in("return", local(4)))}, in("callf", c(fAt), local(4)), in("nop"))
	steps(t, m, 2)
	hasLocal(t, m, 4, 5)
	steps(t, m, 1)
	hasLocal(t, m, 4, 5)
	hasLocal(t, m, 0, 0)
}

func TestEnteringErrors(t *testing.T) {
	for _, x := range []struct {
		f    uint32
		want api.Errno
	}{
		{0, api.FatalFunc}, {first, api.FatalFunc}, {memEnd - 1, api.FatalFunc}, {memEnd, api.FatalRead}, {top, api.FatalRead}, {big, api.FatalRead},
		{0x700, api.FatalFunc}, {0x710, api.FatalFunc}, {0x720, api.FatalFunc}, {0x730, api.FatalFunc}, {0x740, api.FatalOver},
	} {
		for _, r := range []row{in("callf", c(x.f), none), in("call", c(x.f), none, none), in("tailcall", c(x.f), none)} {
			m := machine(t, laid{0x700: {0xc2, 0, 0}, 0x710: {0xc1, 5, 1, 0, 0}, 0x720: {0xc1, 4, 0, 0, 0}, 0x730: {0xbf, 0, 0}, 0x740: {0xc0, 4, 255, 0, 0}}, r)
			fails(t, m, x.want)
		}
	}
	// At the end of memory: a head that ends just there, and ones that end too early.
	for _, x := range []struct {
		b    []byte
		want api.Errno
	}{
		{[]byte{0xc1, 0, 0}, api.OK}, {[]byte{0xc0, 4, 1, 0, 0}, api.OK}, {[]byte{0xc1, 0}, api.FatalFunc}, {[]byte{0xc1}, api.FatalFunc}, {[]byte{0xc1, 4, 1, 0}, api.FatalFunc}, {[]byte{0xc1, 4, 1}, api.FatalFunc}, {[]byte{0xc1, 4}, api.FatalFunc},
	} {
		f := uint32(memEnd - len(x.b))
		m := machine(t, nil, in("callf", c(f), none))
		for i, v := range x.b {
			m.Memory().Write(f+uint32(i), 1, uint32(v))
		}
		if x.want != api.OK {
			fails(t, m, x.want)
			continue
		}
		steps(t, m, 1)
		hasPC(t, m, memEnd)
		fails(t, m, api.FatalRead)
	}
}

func TestAHeadOfManyPairs(t *testing.T) {
	var format []byte
	for range 100 {
		format = append(format, 1, 1, 2, 1)
	}
	m := machine(t, laid{0x280: fun(t, api.FuncLocals, format, in("return", none))}, in("callfii", c(0x280), c(0x1234), c(0x5678), sp))
	steps(t, m, 1)
	hasPC(t, m, 0x280+1+400+2)
	hasLocal(t, m, 0, 0x34005678)
	steps(t, m, 1)
	hasValues(t, m, 0)
}

func TestCallsOnAFullStack(t *testing.T) {
	// 256 bytes: the frame has 28; with 53 values more there is room for 16 bytes.
	full := func(values int, rows ...row) *Machine {
		var l []row
		for range values {
			l = append(l, in("copy", c(1), sp))
		}
		all := fun(t, api.FuncLocals, locals(4), append(l, rows...)...)
		m := begun(t, gameBytes(t, 256, laid{start: all, 0x700: fun(t, api.FuncLocals, nil, in("return", c(9))), 0x710: fun(t, api.FuncStack, nil, in("return", c(9)))}), world(t))
		steps(t, m, values)
		return m
	}
	call := in("callf", c(0x700), none)
	for values, want := range map[int]api.Errno{57: api.FatalOver, 54: api.FatalOver, 53: api.FatalOver, 51: api.FatalOver, 50: api.OK} {
		m := full(values, call)
		if want == api.OK {
			steps(t, m, 1)
			continue
		}
		fails(t, m, want)
		stub := 0
		if values <= 53 {
			stub = 4
		}
		if n := m.Stack().Count(); n != values+stub {
			t.Error(values, n)
		}
	}
	// How many there are, and the arguments, must have room, too.
	for n, want := range []api.Errno{api.OK, api.FatalOver, api.FatalOver} {
		m := full(49, in([]string{"callf", "callfi", "callfii"}[n], append([]api.Operand{c(0x710), c(1), c(2)}[:1+n], none)...))
		if want == api.OK {
			steps(t, m, 1)
			hasValues(t, m, 0)
		} else {
			fails(t, m, want)
		}
	}
}

func TestReturnOfStart(t *testing.T) {
	for _, r := range []row{in("return", c(5)), in("jump", c(0)), in("jump", c(1)), in("jz", none, c(1)), in("jfeq", none, none, none, c(1))} {
		m := machine(t, nil, r, in("nop"))
		ends(t, m)
		if m.Stack().Top() != 0 {
			t.Error(m.Stack().Top())
		}
		if _, ok := m.Stack().Frame(); ok {
			t.Error("there is a frame")
		}
	}
}

func TestTailcall(t *testing.T) {
	l := laid{
		fAt: fun(t, api.FuncLocals, locals(1), in("copy", c(50), sp), in("copy", local(0), sp), in("copy", c(7), sp), in("tailcall", c(gAt), c(2)), in("return", c(1))),
		gAt: fun(t, api.FuncLocals, locals(3), in("return", c(88))),
	}
	m := machine(t, l, in("copy", c(3), sp), in("callfi", c(fAt), c(9), sp), in("quit"))
	steps(t, m, 1+1+3)
	topOfF := m.Stack().Top()
	steps(t, m, 1)
	hasPC(t, m, gAt+5)
	hasLocal(t, m, 0, 7)
	hasLocal(t, m, 4, 9)
	hasLocal(t, m, 8, 0)
	hasValues(t, m)
	if m.Stack().Top() != topOfF-3*4+8 { // g has two locals more than f, and none of f's values
		t.Error(m.Stack().Top(), topOfF)
	}
	steps(t, m, 1)
	hasValues(t, m, 88, 3)
	ends(t, m)
	// From Start: what is called then ends it.
	m = machine(t, l, in("tailcall", c(gAt), none))
	steps(t, m, 1)
	hasPC(t, m, gAt+5)
	ends(t, m)
	fails(t, machine(t, l, in("tailcall", c(gAt), c(1))), api.FatalUnder)
	m = machine(t, laid{fAt: fun(t, api.FuncStack, nil, in("return", none))}, in("copy", c(4), sp), in("copy", c(5), sp), in("tailcall", c(fAt), c(2)))
	steps(t, m, 3)
	hasValues(t, m, 2, 5, 4)
}

func TestBranches(t *testing.T) {
	// A jump of four bytes of offset has six bytes: by -4 it leads to itself.
	const size = 6
	for _, x := range []struct{ by, to uint32 }{
		{2, first + size}, {3, first + size + 1}, {10, first + size + 8}, {1<<32 - 4, first}, {1<<32 - 2, first + size - 4}, {top, first + size - 3}, {1<<32 - 5, first - 1}, {big, big + first + size - 2}, {big - 1, big + first + size - 3},
		{1<<32 - first - size + 2, 0}, {1<<32 - first - size + 1, top},
	} {
		m := machine(t, nil, in("jump", c(x.by)))
		steps(t, m, 1)
		hasPC(t, m, x.to)
	}
	// To itself, for ever.
	m := machine(t, nil, in("jump", c(1<<32-4)))
	if n, e := m.Run(1000); n != 1000 || e != api.OK {
		t.Error(n, e)
	}
	hasPC(t, m, first)
}

func TestBranchesThatReturn(t *testing.T) {
	for x := range uint32(2) {
		for _, taken := range []uint32{0, 1} {
			m := machine(t, laid{fAt: fun(t, api.FuncLocals, nil, in("jnz", c(taken), c(x)), in("return", c(50)))}, in("callf", c(fAt), sp), in("nop"))
			steps(t, m, 2)
			if taken == 1 {
				hasValues(t, m, x)
			} else {
				hasValues(t, m)
				steps(t, m, 1)
				hasValues(t, m, 50)
			}
		}
	}
}

func TestJumpabs(t *testing.T) {
	for _, x := range append(edges(), 0x123, start) {
		m := machine(t, nil, in("jumpabs", c(x)))
		steps(t, m, 1)
		hasPC(t, m, x)
	}
}

func TestCatchAndThrow(t *testing.T) {
	// Start catches, and calls f, which calls g, which throws: Start goes on behind its catch with what was thrown.
	for _, o := range []api.Operand{local(0), at(0x900), ram(0x100), sp} {
		catch := in("catch", o, c(2+7))
		m := machine(t, laid{
			fAt: fun(t, api.FuncLocals, locals(1), in("copy", c(3), sp), in("callfi", c(gAt), local(0), none)),
			gAt: fun(t, api.FuncLocals, locals(2), in("copy", c(4), sp), in("throw", c(55), local(0))),
		}, in("copy", c(5), sp), catch, in("setstringtbl", c(9)))
		steps(t, m, 2)
		behind := uint32(first + len(lay(t, in("copy", c(5), sp))) + len(lay(t, catch)))
		hasPC(t, m, behind+7)
		token := uint32(28 + 4 + 16)
		switch o.Mode {
		case api.ModeLocal4:
			hasLocal(t, m, 0, token)
			hasValues(t, m, 0, behind, 0, 2, 5)
		case api.ModeStack:
			hasValues(t, m, token, 0, behind, 0, 3, 5)
		default:
			hasWord(t, m, 0x900, token)
			hasValues(t, m, 0, behind, 0x900, 1, 5)
		}
		// From within two calls.
		stack := m.Stack().Bytes()
		code := asm(t, in("callfi", c(fAt), c(token), none))
		for i, b := range code {
			if e := m.Memory().Write(0xa00+uint32(i), 1, uint32(b)); e != api.OK {
				t.Fatal(e)
			}
		}
		m.pc = 0xa00
		steps(t, m, 1+2+2)
		hasPC(t, m, behind)
		if len(stack) < 48 {
			t.Fatal(len(stack))
		}
		switch o.Mode {
		case api.ModeLocal4:
			hasLocal(t, m, 0, 55)
			hasValues(t, m, 5)
		case api.ModeStack:
			hasValues(t, m, 55, 5)
		default:
			hasWord(t, m, 0x900, 55)
			hasValues(t, m, 5)
		}
	}
}

func TestCatchThatBranchesBack(t *testing.T) {
	for x := range uint32(2) {
		m := machine(t, laid{fAt: fun(t, api.FuncLocals, nil, in("catch", at(0x900), c(x)), in("nop"))}, in("callf", c(fAt), sp), in("quit"))
		steps(t, m, 2)
		hasValues(t, m, x)
		hasWord(t, m, 0x900, 28+16+12+16)
		ends(t, m)
	}
	// The stub is there ahead of where the token is stored.
	fails(t, machine(t, nil, in("catch", at(0), c(2))), api.FatalWrite)
	m := machine(t, nil, in("catch", none, c(2)), in("nop"))
	steps(t, m, 1)
	hasValues(t, m, 0, first+6, 0, 0)
}

func TestThrowErrors(t *testing.T) {
	for _, token := range []uint32{0, 1, 3, 12, 16, 28, 44, top, big} {
		fails(t, machine(t, nil, in("throw", c(1), c(token))), api.FatalThrow)
	}
	// A token whose call has ended, and nothing lies there any more.
	m := machine(t, laid{fAt: fun(t, api.FuncLocals, nil, in("catch", at(0x900), c(0)))}, in("callf", c(fAt), none), in("throw", c(1), at(0x900)))
	steps(t, m, 2)
	fails(t, m, api.FatalThrow)
}

// fabricated: a machine that goes back with 5 through a stub that the game laid itself.
func fabricated(t *testing.T, l laid, rows []row, kind, addr, pc uint32) *Machine {
	t.Helper()
	all := append(slices.Clone(rows), in("copy", c(kind), sp), in("copy", c(addr), sp), in("copy", c(pc), sp), in("copy", none, sp), in("throw", c(5), c(28+16)))
	m := machine(t, l, all...)
	steps(t, m, len(rows)+4)
	return m
}

func TestStubsOfEachKind(t *testing.T) {
	text := laid{textAt: {0x40, 0x41, 0}}
	for _, kind := range []uint32{4, 5, 6, 7, 8, 9, 15, 16, 0xe0, big, top} {
		m := fabricated(t, text, nil, kind, 0, textAt)
		fails(t, m, api.FatalFrame)
	}
	for _, kind := range []uint32{0, 11} {
		m := fabricated(t, text, nil, kind, 0x900, 0x12345)
		steps(t, m, 1)
		hasPC(t, m, 0x12345)
		hasWord(t, m, 0x900, 0)
		hasValues(t, m)
	}
	m := fabricated(t, text, nil, 1, 0x900, 0x12345)
	steps(t, m, 1)
	hasPC(t, m, 0x12345)
	hasWord(t, m, 0x900, 5)
	m = fabricated(t, text, nil, 2, 12, 0x12345)
	steps(t, m, 1)
	hasLocal(t, m, 12, 5)
	m = fabricated(t, text, nil, 3, 0x900, 0x12345)
	steps(t, m, 1)
	hasValues(t, m, 5)
	fails(t, fabricated(t, text, nil, 1, 0, 0x12345), api.FatalWrite)
	fails(t, fabricated(t, text, nil, 2, 13, 0x12345), api.FatalLocal)
	// A text goes on, and, as nothing lies below it, has no stub to which it ends.
	fails(t, fabricated(t, text, nil, 13, 0, textAt), api.FatalUnder)
	fails(t, fabricated(t, text, nil, 14, 0, memEnd-3), api.FatalRead)
	fails(t, fabricated(t, text, nil, 10, 0, textAt), api.FatalText)
	fails(t, fabricated(t, text, nil, 12, 0, 77), api.FatalUnder)
}

func TestDeepCalls(t *testing.T) {
	// f calls itself until its argument is 0; each answer is one more.
	f := fun(t, api.FuncLocals, locals(1), in("jz", local(0), c(0)), in("sub", local(0), c(1), sp), in("callfi", c(fAt), sp, sp), in("add", sp, c(1), sp), in("return", sp))
	m := machine(t, laid{fAt: f}, in("callfi", c(fAt), c(20), local(8)), in("quit"))
	n, e := m.Run(10000)
	if e != api.ErrOver {
		t.Fatal(n, e)
	}
	hasLocal(t, m, 8, 20)
	m = machine(t, laid{fAt: f}, in("callfi", c(fAt), c(top), local(8)), in("quit"))
	if _, e := m.Run(10000); e != api.FatalOver {
		t.Error(e)
	}
	if m.Stack().Top() > 1024 {
		t.Error(m.Stack().Top())
	}
}
