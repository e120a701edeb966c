package exec

import (
	"slices"
	"strings"
	"testing"

	"grotto/api"
)

// be: numbers of four bytes.
func be(l ...uint32) []byte {
	var b []byte
	for _, x := range l {
		b = append(b, byte(x>>24), byte(x>>16), byte(x>>8), byte(x))
	}
	return b
}

// table: what lies at an address, for these leaves: to the leaf i i bits 1 lead, and a bit 0, but none to the last one.
func table(at uint32, leaves ...[]byte) []byte {
	b := be(0, 0, 0)
	var where []uint32
	for _, l := range leaves {
		where = append(where, at+uint32(len(b)))
		b = append(b, l...)
	}
	root := where[len(where)-1]
	for i := len(leaves) - 2; i >= 0; i-- {
		branch := at + uint32(len(b))
		b = append(append(b, 0), be(where[i], root)...)
		root = branch
	}
	copy(b[8:], be(root))
	return b
}

// packed: a text of these leaves of so many.
func packed(n int, leaves ...int) []byte {
	b := []byte{api.TextPacked}
	bits := 0
	add := func(bit byte) {
		if bits%8 == 0 {
			b = append(b, 0)
		}
		b[len(b)-1] |= bit << (bits % 8)
		bits++
	}
	for _, l := range leaves {
		for range l {
			add(1)
		}
		if l < n-1 {
			add(0)
		}
	}
	return b
}

// The leaves: the end, a character, characters, references.
var leafEnd = []byte{1}

func leafChar(c byte) []byte       { return []byte{2, c} }
func leafChars(s string) []byte    { return append(append([]byte{3}, s...), 0) }
func leafWide(c uint32) []byte     { return append([]byte{4}, be(c)...) }
func leafWides(l ...uint32) []byte { return append(append([]byte{5}, be(l...)...), be(0)...) }
func leafTo(a uint32) []byte       { return append([]byte{8}, be(a)...) }
func leafBy(a uint32) []byte       { return append([]byte{9}, be(a)...) }
func leafToWith(a uint32, l ...uint32) []byte {
	return append(append([]byte{10}, be(a, uint32(len(l)))...), be(l...)...)
}
func leafByWith(a uint32, l ...uint32) []byte {
	return append(append([]byte{11}, be(a, uint32(len(l)))...), be(l...)...)
}

// plain: texts of bytes and of numbers.
func plain(s string) []byte { return append(append([]byte{api.TextBytes}, s...), 0) }
func wides(s string) []byte {
	return append(append([]byte{api.TextWords, 0, 0, 0}, be(runes(s)...)...), be(0)...)
}

// teller: a machine in a world with a window, in that mode, its rock the keeper, its table where tables lie.
func teller(t *testing.T, mode uint32, l laid, rows ...row) *Machine {
	t.Helper()
	w := world(t)
	openWindow(t, w)
	all := laid{rockAt: keeper(t)}
	for a, b := range l {
		all[a] = b
	}
	m := machineIn(t, w, all, append([]row{in("setiosys", c(mode), c(rockAt)), in("setstringtbl", c(tableAt)), in("copy", c(1234), sp)}, rows...)...)
	steps(t, m, 3)
	return m
}

// tells: in each mode rows tell just that, and leave the stack as it was.
func tells(t *testing.T, l laid, want string, rows ...row) {
	t.Helper()
	for mode := range uint32(3) {
		m := teller(t, mode, l, append(rows, in("quit"))...)
		n, e := m.Run(100000)
		if e != api.ErrOver {
			t.Fatalf("mode %d: %d behind %d steps", mode, e, n)
		}
		put, handed := told(m.world), kept(t, m)
		switch {
		case mode == 0 && put+handed != "", mode == 1 && (handed != want || put != ""), mode == 2 && (put != want || handed != ""):
			t.Errorf("mode %d: put %q, handed %q; want %q", mode, put, handed, want)
		}
		hasValues(t, m, 1234)
		if frame, ok := m.Stack().Frame(); frame != 0 || !ok {
			t.Error(frame, ok)
		}
	}
}

func TestCharacters(t *testing.T) {
	tells(t, nil, "A", in("streamchar", c('A')))
	tells(t, nil, "A", in("streamchar", c(0xffffff00+'A')))
	tells(t, nil, "\u00ff", in("streamchar", c(top)))
	tells(t, nil, "\x00", in("streamchar", c(0)))
	tells(t, nil, "\x00", in("streamchar", c(big)))
	tells(t, nil, "\x01", in("streamchar", c(1)))
	tells(t, nil, "\u00ff", in("streamchar", c(big-1)))
	tells(t, nil, "A", in("streamunichar", c('A')))
	tells(t, nil, "\u1234", in("streamunichar", c(0x1234)))
	tells(t, nil, "ab\u2014", in("streamchar", c('a')), in("streamunichar", c('b')), in("streamunichar", c(0x2014)))
	for _, x := range edges() {
		m := teller(t, 2, nil, in("streamunichar", c(x)))
		steps(t, m, 1)
		if l := m.world.Out(); len(l) != 1 || !slices.Equal(l[0].Text, []uint32{x}) {
			t.Error(x, l)
		}
		m = teller(t, 1, nil, in("streamunichar", c(x)), in("nop"))
		steps(t, m, 1+6)
		hasWord(t, m, keptAt, 1)
		hasWord(t, m, keptAt+4, x)
	}
}

func TestACharacterIsACall(t *testing.T) {
	// Stub(0, 0, PC), and the rock is entered: no other stub.
	for _, name := range []string{"streamchar", "streamunichar"} {
		m := teller(t, 1, nil, in(name, c('x')), in("nop"))
		pc := first + uint32(len(asm(t, in("setiosys", c(1), c(rockAt)), in("setstringtbl", c(tableAt)), in("copy", c(1234), sp), in(name, c('x')))))
		before := m.Stack().Bytes()
		steps(t, m, 1)
		hasPC(t, m, rockAt+5)
		hasLocal(t, m, 0, 'x')
		if b := m.Stack().Bytes(); !slices.Equal(b[:len(before)+16], slices.Concat(before, be(0, 0, pc, 0))) {
			t.Error(b)
		}
		steps(t, m, 6)
		hasPC(t, m, pc)
		hasValues(t, m, 1234)
	}
	// A rock that takes its argument from the stack.
	m := teller(t, 1, laid{rockAt: fun(t, api.FuncStack, nil, in("copy", sp, none), in("copy", sp, at(0xa00)), in("return", c(5)))}, in("streamchar", c('x')))
	steps(t, m, 1)
	hasValues(t, m, 1, 'x')
	steps(t, m, 3)
	hasWord(t, m, 0xa00, 'x')
	hasValues(t, m, 1234)
	// A rock that is none, and no room for the stub.
	for _, name := range []string{"streamchar", "streamunichar", "streamnum"} {
		for _, rock := range []uint32{0, 1, first, memEnd - 1} {
			m := machine(t, nil, in("setiosys", c(1), c(rock)), in(name, c('x')))
			steps(t, m, 1)
			fails(t, m, api.FatalFunc)
		}
		m := machine(t, nil, in("setiosys", c(1), c(top)), in(name, c('x')))
		steps(t, m, 1)
		fails(t, m, api.FatalRead)
		m = begun(t, gameBytes(t, 256, laid{start: fun(t, api.FuncLocals, []byte{4, 59}, in("setiosys", c(1), c(rockAt)), in(name, c('x'))), rockAt: keeper(t)}), world(t))
		steps(t, m, 1)
		fails(t, m, api.FatalOver)
	}
}

func TestNumbers(t *testing.T) {
	for x, want := range map[uint32]string{0: "0", 1: "1", 7: "7", 10: "10", big - 1: "2147483647", big: "-2147483648", top: "-1", 1<<32 - 1234: "-1234", 1000000: "1000000"} {
		tells(t, nil, want, in("streamnum", c(x)))
		tells(t, nil, want+want, in("streamnum", c(x)), in("streamnum", c(x)))
	}
}

func TestStubsOfANumber(t *testing.T) {
	m := teller(t, 1, nil, in("streamnum", c(1<<32-45)), in("nop"))
	before := m.Stack().Bytes()
	pc := m.PC() + uint32(len(lay(t, in("streamnum", c(1<<32-45)))))
	for k, digit := range "-45" {
		steps(t, m, 1)
		hasPC(t, m, rockAt+5)
		hasLocal(t, m, 0, uint32(digit))
		if b := m.Stack().Bytes(); !slices.Equal(b[:len(before)+32], slices.Concat(before, be(11, 0, pc, 0), be(12, uint32(k)+1, 1<<32-45, 0))) {
			t.Error(b)
		}
		steps(t, m, 5)
	}
	// The return of the last one leads behind all.
	steps(t, m, 1)
	hasPC(t, m, pc)
	if !slices.Equal(m.Stack().Bytes(), before) {
		t.Error(m.Stack().Bytes())
	}
}

func TestTextsOfEachKind(t *testing.T) {
	l := laid{textAt: plain("Hello, \xe9!\n"), textAt + 0x20: wides("wide \u2014 \U0001f600"), textAt + 0x60: packed(3, 1, 2, 1, 0), textAt + 0x70: plain(""), textAt + 0x78: wides(""), textAt + 0x88: packed(3, 0), tableAt: table(tableAt, leafEnd, leafChar('p'), leafChar('q'))}
	tells(t, l, "Hello, \u00e9!\n", in("streamstr", c(textAt)))
	tells(t, l, "wide \u2014 \U0001f600", in("streamstr", c(textAt+0x20)))
	tells(t, l, "pqp", in("streamstr", c(textAt+0x60)))
	for _, a := range []uint32{0x70, 0x78, 0x88} {
		tells(t, l, "", in("streamstr", c(textAt+a)))
	}
	tells(t, l, "pqpHello, \u00e9!\npqp", in("streamstr", c(textAt+0x60)), in("streamstr", c(textAt+0x70)), in("streamstr", c(textAt)), in("streamstr", c(textAt+0x60)))
}

func TestLeavesOfEachKind(t *testing.T) {
	l := laid{textAt: packed(6, 1, 2, 3, 4, 5, 1, 0), tableAt: table(tableAt, leafEnd, leafChar('a'), leafChars("bcd"), leafWide(0x2014), leafWides('e', 0x1f600, 'f'), leafChars(""))}
	tells(t, l, "abcd\u2014e\U0001f600fa", in("streamstr", c(textAt)))
}

func TestStubsOfTexts(t *testing.T) {
	l := laid{textAt: plain("ab"), textAt + 0x10: wides("ab"), textAt + 0x20: packed(3, 2, 1, 0), tableAt: table(tableAt, leafEnd, leafChar('c'), leafChars("ab"))}
	for _, x := range []struct {
		at, kind uint32
		stubs    [][2]uint32 // of each character: the number and the address
		want     string
	}{
		{textAt, 13, [][2]uint32{{8, textAt + 1}, {8, textAt + 2}}, "ab"},
		{textAt + 0x10, 14, [][2]uint32{{8, textAt + 0x14}, {8, textAt + 0x18}}, "ab"},
		{textAt + 0x20, 10, [][2]uint32{{8, textAt + 0x21}, {16, textAt + 0x21}, {8 + 2, textAt + 0x21}}, "abc"},
	} {
		m := teller(t, 1, l, in("streamstr", c(x.at)), in("nop"))
		before := m.Stack().Bytes()
		pc := m.PC() + uint32(len(lay(t, in("streamstr", c(x.at)))))
		for i, stub := range x.stubs {
			steps(t, m, 1)
			hasPC(t, m, rockAt+5)
			hasLocal(t, m, 0, uint32(x.want[i]))
			if b, want := m.Stack().Bytes(), slices.Concat(before, be(11, 0, pc, 0), be(x.kind, stub[0], stub[1], 0)); !slices.Equal(b[:len(want)], want) {
				t.Errorf("%x %d: %v; want %v", x.at, i, b, want)
			}
			steps(t, m, 5)
		}
		steps(t, m, 1)
		hasPC(t, m, pc)
		if !slices.Equal(m.Stack().Bytes(), before) {
			t.Error(m.Stack().Bytes())
		}
		if s := kept(t, m); s != x.want {
			t.Errorf("%q", s)
		}
	}
}

func TestReferencesToTexts(t *testing.T) {
	const p, w, q = textAt + 0x40, textAt + 0x50, textAt + 0x80 // a plain one, a wide one, a packed one
	l := laid{
		textAt: packed(7, 1, 2, 1, 3, 1, 4, 5, 6, 1, 0),
		p:      plain("<p>"), w: wides("<\u2014>"), q: packed(7, 1, 1, 0),
		textAt - 0x10: be(p, q),
		tableAt:       table(tableAt, leafEnd, leafChar('.'), leafTo(p), leafTo(w), leafBy(textAt-0x10), leafToWith(q, 1, 2), leafByWith(textAt-0xc, 3)),
	}
	tells(t, l, ".<p>.<\u2014>.<p>.....", in("streamstr", c(textAt)))
	// One leads to another, which leads to a third one, and so on.
	for _, depth := range []int{2, 5, 15} {
		l := laid{}
		leaves := [][]byte{leafEnd, leafChar('(')}
		for i := range depth {
			leaves = append(leaves, leafTo(textAt+0x10*uint32(i+1)))
		}
		n := len(leaves)
		for i := range depth {
			l[textAt+0x10*uint32(i)] = packed(n, 1, 2+i, 1, 0)
		}
		l[textAt+0x10*uint32(depth)] = plain("*")
		l[tableAt] = table(tableAt, leaves...)
		s := strings.Repeat("(", depth)
		tells(t, l, s+"*"+s, in("streamstr", c(textAt)))
	}
}

func TestReferencesToFunctions(t *testing.T) {
	const f, g, h = textAt + 0x40, textAt + 0x80, textAt + 0xb0
	l := laid{
		textAt: packed(7, 1, 2, 1, 3, 4, 5, 6, 1, 0),
		// One tells its locals, one what is on the stack, one a number, which is told in its turn.
		f:             fun(t, api.FuncLocals, locals(2), in("streamchar", c('[')), in("streamnum", local(0)), in("streamnum", local(4)), in("return", c(99))),
		g:             fun(t, api.FuncStack, nil, in("streamnum", sp), in("streamnum", sp), in("jump", c(0))),
		h:             fun(t, api.FuncLocals, nil, in("streamstr", c(h+0x20)), in("return", c(98))),
		h + 0x20:      packed(7, 1, 1, 0),
		textAt - 0x10: be(g, f),
		tableAt:       table(tableAt, leafEnd, leafChar('.'), leafTo(f), leafToWith(f, 7, 8, 9), leafByWith(textAt-0x10, 5, 6), leafBy(textAt-0xc), leafTo(h)),
	}
	tells(t, l, ".[00.[7825[00...", in("streamstr", c(textAt)))
}

func TestStubsOfReferences(t *testing.T) {
	const f, p = textAt + 0x40, textAt + 0x50
	l := laid{
		textAt:  packed(4, 2, 3, 0),
		f:       fun(t, api.FuncLocals, locals(1), in("return", c(99))),
		p:       plain("p"),
		tableAt: table(tableAt, leafEnd, leafChar('.'), leafToWith(f, 5), leafTo(p)),
	}
	for mode := range uint32(3) {
		m := teller(t, mode, l, in("streamstr", c(textAt)), in("nop"))
		before := m.Stack().Bytes()
		pc := m.PC() + uint32(len(lay(t, in("streamstr", c(textAt)))))
		steps(t, m, 1)
		hasPC(t, m, f+5)
		hasLocal(t, m, 0, 5)
		// Behind the bits 1 1 0 it goes on.
		if b, want := m.Stack().Bytes(), slices.Concat(before, be(11, 0, pc, 0), be(10, 3, textAt+1, 0)); !slices.Equal(b[:len(want)], want) {
			t.Errorf("mode %d: %v; want %v", mode, b, want)
		}
		steps(t, m, 1)
		if mode == 1 {
			// Back from the function, and on to the other text, whose first character is handed to the rock.
			hasPC(t, m, rockAt+5)
			if b, want := m.Stack().Bytes(), slices.Concat(before, be(11, 0, pc, 0), be(10, 6, textAt+1, 0), be(13, 8, p+1, 0)); !slices.Equal(b[:len(want)], want) {
				t.Errorf("%v; want %v", b, want)
			}
			steps(t, m, 6)
		}
		hasPC(t, m, pc)
		if !slices.Equal(m.Stack().Bytes(), before) {
			t.Error(mode, m.Stack().Bytes())
		}
	}
}

func TestReferencesToNothing(t *testing.T) {
	for mode := range uint32(3) {
		for _, x := range []struct {
			leaf []byte
			want api.Errno
		}{
			{leafTo(textAt + 0x40), api.FatalText}, {leafBy(textAt - 0x10), api.FatalText}, {leafTo(0), api.FatalText}, {leafTo(memEnd), api.FatalRead}, {leafTo(top), api.FatalRead}, {leafTo(memEnd - 1), api.FatalText}, {leafBy(memEnd), api.FatalRead}, {leafBy(memEnd - 3), api.FatalRead}, {leafByWith(top, 1), api.FatalRead}, {leafToWith(textAt+0x40, 1), api.FatalText},
			{leafTo(textAt + 0x50), api.FatalFunc}, {leafTo(textAt + 0x60), api.FatalFunc}, {[]byte{6, 0}, api.FatalText}, {[]byte{7, 0}, api.FatalText}, {[]byte{12, 0}, api.FatalText}, {[]byte{255, 0}, api.FatalText},
		} {
			l := laid{textAt: packed(3, 1, 2, 0), textAt + 0x40: {0xe3}, textAt + 0x50: {0xc0, 1}, textAt + 0x60: {0xc1, 3, 3, 0, 0}, textAt - 0x10: be(textAt + 0x40), tableAt: table(tableAt, leafEnd, leafChar('.'), x.leaf)}
			m := teller(t, mode, l, in("streamstr", c(textAt)), in("nop"))
			if mode == 1 {
				steps(t, m, 6)
			}
			fails(t, m, x.want)
		}
	}
	for _, first := range []byte{0xdf, 0xe3, 0xbf, 0xc2, 0x70, 0xff, 0} {
		l := laid{textAt: packed(3, 1, 2, 0), textAt + 0x40: {first}, tableAt: table(tableAt, leafEnd, leafChar('.'), leafTo(textAt+0x40))}
		m := teller(t, 2, l, in("streamstr", c(textAt)))
		fails(t, m, api.FatalText)
		if s := told(m.world); s != "." {
			t.Errorf("%q", s)
		}
		// No stub lies there.
		hasValues(t, m, 1234)
	}
}

func TestTextsThatAreNone(t *testing.T) {
	for mode := range uint32(3) {
		for a, want := range map[uint32]api.Errno{0: api.FatalText, 1: api.FatalText, start: api.FatalText, textAt: api.FatalText, memEnd - 1: api.FatalText, memEnd: api.FatalRead, big - 1: api.FatalRead, big: api.FatalRead, top: api.FatalRead} {
			m := teller(t, mode, nil, in("streamstr", c(a)), in("nop"))
			fails(t, m, want)
			hasValues(t, m, 1234)
		}
		// Texts that go on beyond the end.
		for _, x := range []struct {
			at uint32
			b  []byte
		}{{memEnd - 3, []byte{api.TextBytes, 'a', 'b'}}, {memEnd - 1, []byte{api.TextBytes}}, {memEnd - 4, []byte{api.TextWords, 0, 0, 0}}, {memEnd - 7, []byte{api.TextWords, 0, 0, 0, 0, 0, 1}}, {memEnd - 2, []byte{api.TextWords, 0}}, {memEnd - 2, []byte{api.TextPacked, 0x55}}} {
			m := teller(t, mode, laid{tableAt: table(tableAt, leafEnd, leafChar('.'), leafChar(';'))}, in("streamstr", c(x.at)), in("nop"))
			for i, v := range x.b {
				m.Memory().Write(x.at+uint32(i), 1, uint32(v))
			}
			if x.b[0] == api.TextPacked {
				m.Memory().Write(memEnd-1, 1, 0x55) // . . . . (1 0), on and on
			}
			if n, e := m.Run(1000); e != api.FatalRead {
				t.Error(mode, x, n, e)
			}
		}
		// No table, one beyond the end, one whose tree has no end.
		for table, want := range map[uint32]api.Errno{0: api.FatalText, memEnd: api.FatalRead, memEnd - 8: api.FatalRead, 0x700: api.FatalText} {
			m := teller(t, mode, laid{textAt: packed(3, 1, 0), 0x700: slices.Concat(be(0, 0, 0x70c), []byte{0}, be(0x70c, 0x70c))}, in("setstringtbl", c(table)), in("streamstr", c(textAt)))
			steps(t, m, 1)
			fails(t, m, want)
		}
	}
}

func TestTextThatNeedsNoTable(t *testing.T) {
	l := laid{textAt: plain("p"), textAt + 0x10: wides("w")}
	tells(t, l, "pw", in("setstringtbl", none), in("streamstr", c(textAt)), in("setstringtbl", c(top)), in("streamstr", c(textAt+0x10)))
}

func TestTextsAtTheEndOfMemory(t *testing.T) {
	for mode := range uint32(3) {
		for _, b := range [][]byte{plain("end"), wides("e"), packed(3, 1, 0), plain("")} {
			at := uint32(memEnd - len(b))
			m := teller(t, mode, laid{tableAt: table(tableAt, leafEnd, leafChar('.'), leafChar(';'))}, in("streamstr", c(at)), in("quit"))
			for i, v := range b {
				m.Memory().Write(at+uint32(i), 1, uint32(v))
			}
			if _, e := m.Run(100); e != api.ErrOver {
				t.Error(mode, b, e)
			}
		}
	}
}

func TestHastenedRock(t *testing.T) {
	// All of it is told within one step: nobody hears it, but the text's own functions are called.
	const f = textAt + 0x40
	l := laid{
		textAt: packed(4, 1, 2, 3, 1, 0), f: fun(t, api.FuncLocals, nil, in("copy", c(5), at(0xa00)), in("return", c(99))), textAt + 0x20: plain("abc"), textAt + 0x30: plain("abc"),
		tableAt: table(tableAt, leafEnd, leafChar('.'), leafChars("xyz"), leafTo(textAt+0x20)),
	}
	for _, r := range []row{in("streamchar", c('x')), in("streamunichar", c(0x2014)), in("streamnum", c(1<<32-123)), in("streamstr", c(textAt)), in("streamstr", c(textAt+0x30))} {
		// With a slip (2) and without one (1).
		for _, n := range []uint32{1, 2} {
			m := teller(t, 1, l, in("accelfunc", c(n), c(rockAt)), r, in("nop"))
			steps(t, m, 1)
			pc := m.PC()
			steps(t, m, 1)
			hasPC(t, m, pc+uint32(len(lay(t, r))))
			hasValues(t, m, 1234)
			if told(m.world)+kept(t, m) != "" {
				t.Error(told(m.world), kept(t, m))
			}
		}
	}
	// A text's function that is hastened: its slip is told in the mode that puts.
	for mode := range uint32(3) {
		l[tableAt] = table(tableAt, leafEnd, leafChar('.'), leafToWith(f, 5), leafTo(textAt+0x20))
		m := teller(t, mode, l, in("accelfunc", c(2), c(f)), in("streamstr", c(textAt)), in("quit"))
		if _, e := m.Run(1000); e != api.ErrOver {
			t.Error(e)
		}
		put, handed := told(m.world), kept(t, m)
		switch {
		case mode == 0 && put+handed != "", mode == 1 && (put != "" || handed != ".abc."), mode == 2 && put != ".\n[** Programming error: tried to find the \".\" of (something) **]\nabc.":
			t.Errorf("%d: %q, %q", mode, put, handed)
		}
		hasWord(t, m, 0xa00, 0)
	}
}

func TestModeChangesOnTheWay(t *testing.T) {
	const f, p = textAt + 0x40, textAt + 0x30
	with := func(change ...row) laid {
		return laid{
			textAt: packed(4, 1, 3, 2, 3, 1, 0), p: plain("abc"),
			f:       fun(t, api.FuncLocals, nil, append(change, in("return", c(1)))...),
			tableAt: table(tableAt, leafEnd, leafChar('.'), leafTo(f), leafTo(p)),
		}
	}
	for _, x := range []struct{ from, to uint32 }{{0, 0}, {0, 1}, {0, 2}, {1, 0}, {1, 1}, {1, 2}, {2, 0}, {2, 1}, {2, 2}, {1, 3}} {
		m := teller(t, x.from, with(in("setiosys", c(x.to), c(rockAt))), in("streamstr", c(textAt)), in("quit"))
		if _, e := m.Run(1000); e != api.ErrOver {
			t.Error(x, e)
		}
		put, handed := "", ""
		for i, s := range []string{".abc", "abc."} {
			switch []uint32{x.from, x.to}[i] {
			case 1:
				handed += s
			case 2:
				put += s
			}
		}
		if told(m.world) != put || kept(t, m) != handed {
			t.Errorf("%v: %q, %q; want %q, %q", x, told(m.world), kept(t, m), put, handed)
		}
		hasValues(t, m, 1234)
	}
	// Another table, for what is behind: there . is ; and what led to f leads to the end.
	const other = 0x700
	l := with(in("setstringtbl", c(other)))
	l[other] = table(other, leafEnd, leafChar(';'), leafEnd, leafChar('!'))
	tells(t, l, ".abc!;", in("streamstr", c(textAt)), in("setstringtbl", c(tableAt)))
}

func TestRockChangesTheMode(t *testing.T) {
	// The rock itself turns to what is put: behind the first character the others are put, of what is in the same piece, too.
	for _, x := range []struct {
		b []byte
		r row
	}{
		{plain("abcdef"), in("streamstr", c(textAt))}, {wides("abcdef"), in("streamstr", c(textAt))}, {packed(3, 1, 2, 0), in("streamstr", c(textAt))}, {nil, in("streamnum", c(123456))},
	} {
		for mode := range uint32(3) {
			l := laid{rockAt: fun(t, api.FuncLocals, locals(1), in("copy", local(0), at(0xa00)), in("setiosys", c(mode), c(fAt)), in("return", c(1))), fAt: keeper(t), tableAt: table(tableAt, leafEnd, leafChar('a'), leafChars("bcdef"))}
			if x.b != nil {
				l[textAt] = x.b
			}
			m := teller(t, 1, l, x.r, in("quit"))
			if _, e := m.Run(1000); e != api.ErrOver {
				t.Error(e)
			}
			first, others := uint32('a'), "bcdef"
			if x.b == nil {
				first, others = '1', "23456"
			}
			hasWord(t, m, 0xa00, first)
			put, handed := "", ""
			switch mode {
			case 1:
				handed = others
			case 2:
				put = others
			}
			if told(m.world) != put || kept(t, m) != handed {
				t.Errorf("%d: %q, %q; want %q, %q", mode, told(m.world), kept(t, m), put, handed)
			}
			hasValues(t, m, 1234)
		}
	}
}

func TestRockThatTellsTexts(t *testing.T) {
	// While a text is told by it, the rock tells a number and a text of its own, by another one.
	l := laid{
		rockAt: fun(t, api.FuncLocals, locals(1), in("setiosys", c(1), c(fAt)), in("streamchar", local(0)), in("streamnum", c(12)), in("streamstr", c(textAt+0x10)), in("setiosys", c(1), c(rockAt)), in("return", c(1))),
		fAt:    keeper(t), textAt: plain("ab"), textAt + 0x10: wides("!"),
	}
	m := teller(t, 1, l, in("streamstr", c(textAt)), in("quit"))
	if _, e := m.Run(10000); e != api.ErrOver {
		t.Error(e)
	}
	if s := kept(t, m); s != "a12!b12!" {
		t.Errorf("%q", s)
	}
	hasValues(t, m, 1234)
}

func TestThrownOutOfAText(t *testing.T) {
	// A text's function throws: the text is told no further.
	const f = textAt + 0x40
	l := laid{textAt: packed(3, 1, 2, 1, 0), f: fun(t, api.FuncLocals, nil, in("throw", c(7), at(0xa00))), tableAt: table(tableAt, leafEnd, leafChar('.'), leafTo(f))}
	for mode := range uint32(3) {
		tell := in("streamstr", c(textAt))
		m := teller(t, mode, l, in("catch", at(0xa00), c(2)), in("jeq", at(0xa00), c(7), c(2+uint32(len(lay(t, tell))))), tell, in("quit"))
		if _, e := m.Run(1000); e != api.ErrOver {
			t.Error(e)
		}
		if s := told(m.world) + kept(t, m); s != []string{"", ".", "."}[mode] {
			t.Errorf("%q", s)
		}
		hasValues(t, m, 1234)
	}
}

func TestSavedWithinAText(t *testing.T) {
	// A text's function saves a state: what is undone then goes on with the text, once more.
	const f = textAt + 0x40
	l := laid{textAt: packed(4, 1, 2, 3, 0), f: fun(t, api.FuncLocals, nil, in("saveundo", none), in("return", c(1))), tableAt: table(tableAt, leafEnd, leafChar('.'), leafTo(f), leafChars("xy"))}
	for mode := range uint32(3) {
		m := teller(t, mode, l, in("streamstr", c(textAt)), in("hasundo", at(0xa00)), in("jnz", at(0xa00), c(2+6)), in("restoreundo", none), in("nop"), in("nop"), in("nop"), in("quit"))
		if _, e := m.Run(1000); e != api.ErrOver {
			t.Error(e)
		}
		want := []string{"", ".xy", ".xyxy"}[mode]
		if s := told(m.world) + kept(t, m); s != want {
			t.Errorf("%d: %q; want %q", mode, s, want)
		}
		hasValues(t, m, 1234)
	}
}

// forgedText: a machine that goes back through a stub of its own making, below which one leads to 0x12345.
func forgedText(t *testing.T, mode uint32, l laid, kind, addr, pc uint32) *Machine {
	t.Helper()
	m := teller(t, mode, l, in("throw", c(5), c(28+4+32)))
	m.stk.Stub(11, 0, 0x12345)
	m.stk.Stub(kind, addr, pc)
	return m
}

func TestStubsWithAnyNumbers(t *testing.T) {
	l := laid{textAt: plain("abc"), textAt + 0x10: wides("abc"), textAt + 0x30: packed(3, 2, 1, 0), tableAt: table(tableAt, leafEnd, leafChar('c'), leafChars("ab"))}
	for _, x := range []struct {
		kind, addr, pc uint32
		want           string
	}{
		{13, 0, textAt + 1, "abc"}, {13, 8, textAt + 1, "bc"}, {13, 16, textAt + 1, "bc"}, {13, 7, textAt + 1, "abc"}, {13, 15, textAt + 1, "bc"}, {13, top, textAt + 1, "bc"}, {13, big, textAt + 2, "c"}, {13, 5, textAt + 4, ""},
		{14, 0, textAt + 0x14, "abc"}, {14, 8, textAt + 0x14, "bc"}, {14, 3, textAt + 0x18, "bc"}, {14, top, textAt + 0x14, "bc"},
		{10, 0, textAt + 0x31, "abc"}, {10, 8, textAt + 0x31, "bc"}, {10, 16, textAt + 0x31, "c"}, {10, 24, textAt + 0x31, "c"}, {10, 2, textAt + 0x31, "c"}, {10, 10, textAt + 0x31, ""}, {10, 4, textAt + 0x31, ""}, {10, top - 7, textAt + 0x31, "c"},
		{12, 0, 123, "123"}, {12, 1, 123, "23"}, {12, 2, 123, "3"}, {12, 3, 123, ""}, {12, 4, 123, ""}, {12, top, 123, ""}, {12, big, 123, ""}, {12, 1, top, "1"}, {12, 0, top, "-1"},
	} {
		for mode := range uint32(3) {
			m := forgedText(t, mode, l, x.kind, x.addr, x.pc)
			for range 200 {
				if e := m.Step(); e != api.OK {
					t.Fatal(mode, x, e)
				}
				if m.PC() == 0x12345 {
					break
				}
			}
			hasPC(t, m, 0x12345)
			hasValues(t, m, 1234)
			want := x.want
			if mode == 0 {
				want = ""
			}
			if s := told(m.world) + kept(t, m); s != want {
				t.Errorf("mode %d, %v: %q", mode, x, s)
			}
		}
	}
}

func TestEndsAtStubsOfOtherKinds(t *testing.T) {
	for mode := range uint32(3) {
		for _, kind := range []uint32{0, 1, 2, 3, 4, 9, 15, big, top} {
			m := teller(t, mode, laid{textAt: plain("")}, in("throw", c(5), c(28+4+32)))
			m.stk.Stub(kind, 0x900, 0x12345)
			m.stk.Stub(13, 0, textAt+1)
			fails(t, m, api.FatalFrame)
			hasWord(t, m, 0x900, 0)
		}
		// Where it ends at one for a text, that one goes on; and so on, to one of the kind 11.
		m := teller(t, mode, laid{textAt: plain("xyz")}, in("throw", c(5), c(28+4+64)))
		m.stk.Stub(11, 0x900, 0x12345)
		m.stk.Stub(12, 1, 45)
		m.stk.Stub(13, 0, textAt+3)
		m.stk.Stub(13, 0, textAt+2)
		for range 100 {
			if m.PC() == 0x12345 {
				break
			}
			steps(t, m, 1)
		}
		if s := told(m.world) + kept(t, m); s != []string{"", "yzz5", "yzz5"}[mode] {
			t.Errorf("%q", s)
		}
		hasValues(t, m, 1234)
		// Nothing lies below it.
		m = teller(t, mode, laid{textAt: plain("")}, in("throw", c(5), c(28+4+16)))
		m.stk.Stub(13, 0, textAt+1)
		fails(t, m, api.FatalUnder)
		m = teller(t, mode, laid{textAt: plain("")}, in("throw", c(5), c(28+4+32)))
		for _, x := range []uint32{11, 0, 0x12345, 5} {
			m.stk.Push(x)
		}
		m.stk.Stub(13, 0, textAt+1)
		fails(t, m, api.FatalFrame)
	}
}

func TestCharactersBehindTheModeNone(t *testing.T) {
	// In the mode that tells nothing a text is gone through nevertheless: its functions are called, and what is wrong in it is found.
	const f = textAt + 0x40
	l := laid{textAt: packed(3, 1, 2, 0), f: fun(t, api.FuncLocals, nil, in("copy", c(5), at(0xa00)), in("return", c(1))), tableAt: table(tableAt, leafEnd, leafChar('.'), leafTo(f))}
	m := teller(t, 0, l, in("streamstr", c(textAt)), in("nop"))
	steps(t, m, 4)
	hasWord(t, m, 0xa00, 5)
	if told(m.world)+kept(t, m) != "" {
		t.Error("something is told")
	}
}
