package glk

import (
	"fmt"
	"math/rand"
	"slices"
	"strings"
	"testing"

	"grotto/api"
)

// P16.1

func TestNew(t *testing.T) {
	for _, screen := range [][2]int{{0, 0}, {0, 1000}, {1000, 0}, {1000, 1000}, {80, 24}, {1, 1}} {
		b := begin(t, screen[0], screen[1], line("go"), char('x'))
		b.does(api.GlkWinRoot)
		b.does(api.GlkStrCurrent)
		for _, sel := range []uint32{api.GlkWinNext, api.GlkStrNext, api.GlkRefNext} {
			b.pushes([]uint32{0}, 0, sel, 0, top)
		}
		if b.g.Left() != 2 || b.g.Over() || len(b.g.Names()) != 0 || len(b.g.Out()) != 0 {
			t.Errorf("Left() = %d, Over() = %t, Names() = %q, Out() = %v", b.g.Left(), b.g.Over(), b.g.Names(), b.g.Out())
		}
		// The first window has the whole screen.
		b.gives(1, api.GlkWinOpen, 0, 0, 0, api.WinGrid, 0)
		b.pushes([]uint32{uint32(screen[0]), uint32(screen[1])}, 0, api.GlkWinSize, 1, top, top)
	}
}

func TestNewOfNoScreen(t *testing.T) {
	const most, least = 1<<63 - 1, -1 << 63
	for _, wrong := range []int{-1, -2, 1001, 1002, 1 << 32, 1<<32 + 5, most, least} {
		for _, screen := range [][2]int{{wrong, 10}, {10, wrong}, {wrong, wrong}} {
			if g, e := New(screen[0], screen[1], line("go")); g != nil || e != api.ErrArg {
				t.Errorf("New(%d, %d) = %v, %d", screen[0], screen[1], g, e)
			}
		}
	}
}

func TestInputsAreCopied(t *testing.T) {
	inputs := make([]api.Input, 2, 5)
	inputs[0], inputs[1] = line("go"), char('x', 'y')
	room := inputs[0].Text[:0]
	g, _ := New(10, 10, inputs...)
	inputs[0].Text[0], inputs[1] = 'n', char('z')
	m := newRoom()
	g.Call(m, api.GlkWinOpen, 0, 0, 0, api.WinText, 0)
	g.Call(m, api.GlkLineAsk, 1, 0x300, 10, 0)
	g.Call(m, api.GlkSelect, 0)
	g.Call(m, api.GlkCharAsk, 1)
	g.Call(m, api.GlkSelect, top)
	if is := m.text(0x300, 3); is != "go\x00" || !slices.Equal(m.stack, []uint32{2, 1, 'x', 0}) {
		t.Errorf("%q, %v", is, m.stack)
	}
	if room[:2][0] != 'n' || room[:2][1] != 'o' || inputs[:5][2].Text != nil || inputs[:5][4].Line {
		t.Error("what was handed in is changed")
	}
}

func TestFiles(t *testing.T) {
	b := begin(t, 0, 0)
	for _, name := range []string{"b", "a", "\xff", strings.Repeat("n", 32)} {
		if e := b.setFile(name, "some "+name); e != api.OK {
			t.Errorf("SetFile(%q) = %d", name, e)
		}
		b.has(name, "some "+name)
	}
	if is := b.g.Names(); !slices.Equal(is, []string{"a", "b", strings.Repeat("n", 32), "\xff"}) {
		t.Errorf("Names() = %q", is)
	}
	for _, name := range []string{"", strings.Repeat("n", 33)} {
		if e := b.setFile(name, "x"); e != api.ErrArg {
			t.Errorf("SetFile(%q) = %d", name, e)
		}
	}
	for _, name := range []string{"", "c", "A", strings.Repeat("n", 33)} {
		if data, ok := b.g.File(name); len(data) != 0 || ok {
			t.Errorf("File(%q) = %v, %t", name, data, ok)
		}
	}
	b.setFile("a", "")
	b.has("a", "")
}

func TestFilesThatAreRefused(t *testing.T) {
	b := begin(t, 0, 0)
	// So many bytes as a shelf may have, and one more.
	if e := b.setFile("a", strings.Repeat("x", 1048577)); e != api.ErrFull {
		t.Errorf("%d", e)
	}
	if e := b.setFile("a", strings.Repeat("x", 1048576)); e != api.OK {
		t.Errorf("%d", e)
	}
	if e := b.setFile("b", "y"); e != api.ErrFull {
		t.Errorf("%d", e)
	}
	b.reference("a", 1)
	b.gives(2, api.GlkStrFile, 1, api.StreamRead, 0)
	if e := b.setFile("a", "z"); e != api.ErrThere {
		t.Errorf("%d", e)
	}
	b.does(api.GlkStrClose, 2, 0)
	for i := range 63 {
		b.setFile(fmt.Sprint(i), "")
	}
	if e := b.setFile("b", ""); e != api.ErrMany {
		t.Errorf("%d", e)
	}
}

func TestOver(t *testing.T) {
	b := begin(t, 10, 10, line("go"))
	b.gives(1, api.GlkWinOpen, 0, 0, 0, api.WinText, 0)
	b.does(api.GlkWinSet, 1)
	b.write("end")
	b.does(api.GlkExit)
	if !b.g.Over() || b.g.Left() != 1 {
		t.Errorf("Over() = %t, Left() = %d", b.g.Over(), b.g.Left())
	}
	// Every call, of whatever arguments, and none that is there.
	for _, f := range forms() {
		for n := range 7 {
			b.refuses(api.ErrOver, f.sel, make([]uint32, n)...)
		}
	}
	for _, sel := range []uint32{0, 2, 3, 0x100, top} {
		b.refuses(api.ErrOver, sel)
		b.refuses(api.ErrOver, sel, 1)
	}
	b.wrote('x')
	b.reads(1, "end")
	b.told(said(1, "end"))
	if e := b.setFile("a", "later"); e != api.OK {
		t.Errorf("%d", e)
	}
}

// P16.2: which calls there are

func TestEachCallHasItsArguments(t *testing.T) {
	r := rand.New(rand.NewSource(162))
	for _, f := range forms() {
		b := someWorld(t, r, 20)
		for b.g.Over() {
			b = someWorld(t, r, 20)
		}
		for n := range 8 {
			args := make([]uint32, n)
			if n != len(f.args) {
				b.refuses(api.FatalCall, f.sel, args...)
				for i := range args {
					args[i] = someOf(r, b.ids()...)
				}
				b.refuses(api.FatalCall, f.sel, args...)
			}
		}
		if _, e := b.call(f.sel, make([]uint32, len(f.args))...); e == api.FatalCall {
			t.Errorf("%x is no call", f.sel)
		}
	}
}

func TestNumbersThatAreNoCall(t *testing.T) {
	b := begin(t, 10, 10)
	b.gives(1, api.GlkWinOpen, 0, 0, 0, api.WinText, 0)
	sels := []uint32{1 << 16, 1<<16 + 1, 1 << 31, 1<<31 + 1, top - 1, top}
	for sel := range uint32(0x400) {
		sels = append(sels, sel)
	}
	n := 0
	for _, sel := range sels {
		if _, ok := formOf(sel); ok {
			n++
			continue
		}
		for k := range 7 {
			b.refuses(api.FatalCall, sel, make([]uint32, k)...)
		}
	}
	if n != 48 {
		t.Errorf("%d calls", n)
	}
}

func TestOfTwoErrorsTheFirst(t *testing.T) {
	for _, over := range []bool{false, true} {
		g, _ := New(10, 10)
		if over {
			g.Call(newRoom(), api.GlkExit)
		}
		for _, f := range append(forms(), form{0, ""}, form{3, "w"}) {
			for n := range 7 {
				var none *World
				if x, e := none.Call(newRoom(), f.sel, make([]uint32, n)...); x != 0 || e != api.ErrNil {
					t.Errorf("on nil %x: %d, %d", f.sel, x, e)
				}
				if x, e := none.Call(nil, f.sel, make([]uint32, n)...); x != 0 || e != api.ErrNil {
					t.Errorf("on nil %x: %d, %d", f.sel, x, e)
				}
				if x, e := g.Call(nil, f.sel, make([]uint32, n)...); x != 0 || e != api.ErrNil {
					t.Errorf("of nil %x: %d, %d", f.sel, x, e)
				}
			}
		}
		if g.Over() != over {
			t.Error("a call of a nil Space is done")
		}
		if x, e := g.Call(newRoom(), api.GlkRefName, 0, 0x6000, 0); x != 0 || over && e != api.ErrOver || !over && e != api.FatalRead {
			t.Errorf("%d, %d", x, e)
		}
	}
}

func TestNil(t *testing.T) {
	var g *World
	if e := g.SetFile("a", []byte("x")); e != api.ErrNil {
		t.Errorf("SetFile = %d", e)
	}
	if e := g.SetFile("", nil); e != api.ErrNil {
		t.Errorf("SetFile = %d", e)
	}
	g.Put('x')
	if l := g.Out(); len(l) != 0 {
		t.Errorf("Out() = %v", l)
	}
	for _, id := range []uint32{0, 1, 2, top} {
		if l := g.Text(id); len(l) != 0 {
			t.Errorf("Text(%d) = %v", id, l)
		}
		if l := g.Rows(id); len(l) != 0 {
			t.Errorf("Rows(%d) = %v", id, l)
		}
		if g.Lay(id, nil) || g.Lay(id, []byte("x")) {
			t.Errorf("Lay(%d)", id)
		}
		if l, ok := g.Rest(id); len(l) != 0 || ok {
			t.Errorf("Rest(%d) = %v, %t", id, l, ok)
		}
	}
	if data, ok := g.File("a"); len(data) != 0 || ok {
		t.Errorf("File = %v, %t", data, ok)
	}
	if len(g.Names()) != 0 || g.Left() != 0 || g.Over() {
		t.Errorf("Names() = %q, Left() = %d, Over() = %t", g.Names(), g.Left(), g.Over())
	}
}

// A Space that is made of a nil pointer panics at each question: no call does.
func TestASpaceThatPanics(t *testing.T) {
	r := rand.New(rand.NewSource(1622))
	var m *room
	for range 20 {
		b := someWorld(t, r, 60)
		for range 200 {
			f := someOf(r, forms()...)
			var args []uint32
			for _, letter := range f.args {
				args = append(args, b.someArg(r, letter)&0xffff)
			}
			if x, e := b.g.Call(m, f.sel, args...); e != api.OK && x != 0 {
				t.Fatalf("Call(%x, %v) = %d, %d", f.sel, args, x, e)
			}
		}
	}
	g, _ := New(10, 10)
	if x, e := g.Call(m, api.GlkWinNext, 0, 0x300); x != 0 || e != api.ErrNil {
		t.Errorf("%d, %d", x, e)
	}
	if x, e := g.Call(m, api.GlkWinNext, 0, 0); x != 0 || e != api.OK {
		t.Errorf("%d, %d", x, e)
	}
}

func TestNoCallPanicsOnTheZeroWorld(t *testing.T) {
	r := rand.New(rand.NewSource(1623))
	g, m := &World{}, newRoom()
	b := begin(t, 10, 10)
	for range 5000 {
		f := someOf(r, forms()[1:]...)
		var args []uint32
		for _, letter := range f.args {
			args = append(args, b.someArg(r, letter)&0xffff)
		}
		g.Call(m, f.sel, args...)
	}
	g.Put('x')
	g.SetFile("a", nil)
	g.File("a")
	g.Names()
	g.Out()
	for id := range uint32(20) {
		g.Text(id)
		g.Rows(id)
		g.Lay(id, []byte("x"))
		g.Rest(id)
	}
}

// P16.2: characters that are asked about

func TestAsk(t *testing.T) {
	b := begin(t, 0, 0)
	chars := slices.Concat(someChars(), []uint32{30, 33, 125, 128, 158, 161, 253})
	for c := range uint32(400) {
		chars = append(chars, c)
	}
	for _, c := range chars {
		b.gives(0x705, api.GlkAsk, 0, c)
		for _, a := range []uint32{1, 2, 3, 4, 5, 256, 1 << 16, top} {
			b.call(api.GlkAsk, a, c)
		}
	}
	for _, edge := range []struct{ c, one, two, three uint32 }{
		{9, 0, 0, 0}, {10, 0, 0, 2}, {11, 0, 0, 0}, {31, 0, 0, 0}, {32, 1, 1, 2}, {126, 1, 1, 2}, {127, 0, 0, 0},
		{159, 0, 0, 0}, {160, 0, 1, 2}, {255, 0, 1, 2}, {256, 0, 0, 0}, {256 + 32, 0, 0, 0}, {top, 0, 0, 0},
	} {
		b.gives(edge.one, api.GlkAsk, 1, edge.c)
		b.gives(edge.two, api.GlkAsk, 2, edge.c)
		b.gives(edge.three, api.GlkAsk, 3, edge.c)
		b.gives(0, api.GlkAsk, 4, edge.c)
	}
}

func TestLowerAndUpper(t *testing.T) {
	b := begin(t, 0, 0)
	for c := range uint32(600) {
		b.call(api.GlkLower, c)
		b.call(api.GlkUpper, c)
	}
	for _, c := range someChars() {
		b.call(api.GlkLower, c)
		b.call(api.GlkUpper, c)
	}
	for _, edge := range [][3]uint32{
		{64, 64, 64}, {65, 97, 65}, {90, 122, 90}, {91, 91, 91}, {96, 96, 96}, {97, 97, 65}, {122, 122, 90}, {123, 123, 123},
		{191, 191, 191}, {192, 224, 192}, {214, 246, 214}, {215, 215, 215}, {216, 248, 216}, {222, 254, 222}, {223, 223, 223},
		{224, 224, 192}, {246, 246, 214}, {247, 247, 247}, {248, 248, 216}, {254, 254, 222}, {255, 255, 255},
		{0, 0, 0}, {31, 31, 31}, {32, 32, 32}, {256 + 65, 256 + 65, 256 + 65}, {256 + 97, 256 + 97, 256 + 97}, {top, top, top}, {top - 31, top - 31, top - 31},
	} {
		b.gives(edge[1], api.GlkLower, edge[0])
		b.gives(edge[2], api.GlkUpper, edge[0])
	}
}

// P16.2: objects in their order

// many: windows, streams and references, of which some are gone: windows 1 and 10, their streams 2 and 11, the streams 5 and 8, the references 4, 7 and 9; 3 and 6 are gone.
func many(t *testing.T) *both {
	t.Helper()
	b := begin(t, 20, 10)
	b.gives(1, api.GlkWinOpen, 0, 0, 0, api.WinText, 71)
	b.reference("abc", 3)
	b.reference("abc", 4)
	b.gives(5, api.GlkStrMemory, 0x300, 4, api.StreamBoth, 75)
	b.gives(6, api.GlkStrMemory, 0x300, 4, api.StreamBoth, 76)
	b.reference("abc", 7)
	b.gives(8, api.GlkStrFile, 7, api.StreamWrite, 78)
	b.reference("ab", 9)
	b.gives(10, api.GlkWinOpen, 1, api.PaneAbove+api.PaneFixed, 3, api.WinGrid, 80)
	b.does(api.GlkRefDestroy, 3)
	b.does(api.GlkStrClose, 6, 0)
	return b
}

func TestNextObjects(t *testing.T) {
	b := many(t)
	// The pair is 12, its stream 13; what is told behind each number from 0 on.
	next := map[uint32][14]uint32{
		api.GlkWinNext: {1, 10, 10, 10, 10, 10, 10, 10, 10, 10, 12, 12, 0, 0},
		api.GlkStrNext: {2, 2, 5, 5, 5, 8, 8, 8, 11, 11, 11, 13, 13, 0},
		api.GlkRefNext: {4, 4, 4, 4, 7, 7, 7, 9, 9, 0, 0, 0, 0, 0},
	}
	rocks := map[uint32]uint32{0: 0, 1: 71, 2: 0, 4: 94, 5: 75, 7: 97, 8: 78, 9: 99, 10: 80, 11: 0, 12: 0, 13: 0}
	for sel, l := range next {
		for o, want := range l {
			b.gives(want, sel, uint32(o), api.NoAddr)
			b.pushes([]uint32{rocks[want]}, want, sel, uint32(o), api.StackAddr)
			b.put(0x310, "\xff\xff\xff\xff\xff")
			b.gives(want, sel, uint32(o), 0x310)
			b.holds(0x310, string([]byte{0, 0, 0, byte(rocks[want]), 0xff}))
		}
		for _, o := range []uint32{14, 15, 1 << 16, 1 << 31, top - 1, top} {
			b.pushes([]uint32{0}, 0, sel, o, api.StackAddr)
		}
	}
}

func TestNextObjectsOfASpaceThatRefuses(t *testing.T) {
	b := many(t)
	for _, sel := range []uint32{api.GlkWinNext, api.GlkStrNext, api.GlkRefNext} {
		for _, o := range []uint32{0, 1, 14} {
			b.refuses(api.FatalWrite, sel, o, 0x400)
			b.refuses(api.FatalWrite, sel, o, 0x5ffd)
			b.refusing(0, api.FatalOver)
			b.refuses(api.FatalOver, sel, o, api.StackAddr)
			b.willing()
		}
	}
}

func TestWordsGoOnModulo2To32(t *testing.T) {
	for addr := uint32(top - 17); addr != 5; addr++ {
		if addr == top || addr == 0 {
			continue
		}
		b := begin(t, 10, 10, char('x'))
		b.gives(1, api.GlkWinOpen, 0, 0, 0, api.WinText, 0)
		b.does(api.GlkCharAsk, 1)
		b.does(api.GlkSelect, addr)
		b.pushed()
		for i, want := range []uint32{api.EventChar, 1, 'x', 0} {
			if is := b.s.word(addr + 4*uint32(i)); is != want {
				t.Errorf("%d at %x, not %d", is, addr+4*uint32(i), want)
			}
		}
	}
}

func TestRocks(t *testing.T) {
	b := many(t)
	for id, want := range map[uint32]uint32{1: 71, 10: 80, 12: 0} {
		b.gives(want, api.GlkWinRock, id)
	}
	for id, want := range map[uint32]uint32{2: 0, 5: 75, 8: 78, 11: 0, 13: 0} {
		b.gives(want, api.GlkStrRock, id)
	}
	for id, want := range map[uint32]uint32{4: 94, 7: 97, 9: 99} {
		b.gives(want, api.GlkRefRock, id)
	}
	// Of another kind, gone, or never there.
	for _, id := range []uint32{0, 2, 3, 4, 5, 6, 7, 8, 9, 11, 13, 14, 1 << 31, top} {
		b.does(api.GlkWinRock, id)
	}
	for _, id := range []uint32{0, 1, 3, 4, 6, 7, 9, 10, 12, 14, 1 << 31, top} {
		b.does(api.GlkStrRock, id)
	}
	for _, id := range []uint32{0, 1, 2, 3, 5, 6, 8, 10, 11, 12, 13, 14, 1 << 31, top} {
		b.does(api.GlkRefRock, id)
	}
	b.gives(14, api.GlkStrMemWide, 0, 0, api.StreamRead, top)
	b.gives(top, api.GlkStrRock, 14)
}

// P16.4

func TestPut(t *testing.T) {
	b := begin(t, 10, 2)
	b.wrote('n') // no stream is current
	b.gives(1, api.GlkWinOpen, 0, 0, 0, api.WinText, 0)
	b.wrote('n')
	b.does(api.GlkWinSet, 1)
	b.wrote('a', 255, 256, 1<<31, top, 10, 0)
	b.told(api.Said{Win: 1, Text: []uint32{'a', 255, 256, 1 << 31, top, 10, 0}})
	b.gives(7, api.GlkStrTell, 2)
	b.reference("abc", 3)
	b.gives(4, api.GlkStrFile, 3, api.StreamWrite, 0)
	b.does(api.GlkStrSet, 4)
	b.wrote('a', 255, 256, top)
	b.does(api.GlkStrClose, 4, 0)
	b.has("abc", "a\xff??")
	b.wrote('n')
}

func TestOutOfSeveralWindowsByTurns(t *testing.T) {
	b := begin(t, 40, 20, line("go"), line("on"))
	b.gives(1, api.GlkWinOpen, 0, 0, 0, api.WinText, 0)
	b.gives(3, api.GlkWinOpen, 1, api.PaneAbove+api.PaneShare, 30, api.WinText, 0)
	b.gives(7, api.GlkWinOpen, 1, api.PaneAbove+api.PaneFixed, 3, api.WinGrid, 0)
	b.told()
	b.does(api.GlkWinSet, 1)
	b.write("ab")
	b.does(api.GlkPutStr, 4, 'c')
	b.write("d")
	b.told(said(1, "ab"), said(3, "c"), said(1, "d"))
	// What comes to a grid, or to a file, parts nothing.
	b.does(api.GlkPutStr, 8, 'g')
	b.write("e")
	b.told(said(1, "ab"), said(3, "c"), said(1, "de"))
	// A line from outside is told, too.
	b.does(api.GlkLineAsk, 1, 0, 10, 0)
	b.does(api.GlkSelect, 0)
	b.write("f")
	b.does(api.GlkLineAsk, 3, 0, 10, 0)
	b.does(api.GlkSelect, 0)
	b.told(said(1, "ab"), said(3, "c"), said(1, "dego\nf"), said(3, "on\n"))
	// What is cleared, and whose window is gone, has been told.
	b.does(api.GlkWinClear, 3)
	b.does(api.GlkWinClose, 3, 0)
	b.write("h")
	b.told(said(1, "ab"), said(3, "c"), said(1, "dego\nf"), said(3, "on\n"), said(1, "h"))
	b.reads(1, "abdego\nfh")
	b.reads(3, "")
}

func TestTextAndRowsOfOthers(t *testing.T) {
	b := begin(t, 4, 3)
	b.gives(1, api.GlkWinOpen, 0, 0, 0, api.WinText, 0)
	b.gives(3, api.GlkWinOpen, 1, api.PaneAbove+api.PaneFixed, 1, api.WinGrid, 0)
	b.gives(7, api.GlkWinOpen, 1, api.PaneLeft+api.PaneFixed, 1, api.WinBlank, 0)
	for _, str := range []uint32{2, 4, 6, 8, 10} {
		b.does(api.GlkPutStr, str, 'a')
	}
	b.reads(1, "a")
	b.shows(3, "a   ")
	for _, id := range []uint32{0, 2, 3, 4, 5, 6, 7, 8, 9, 10, 11, 12, top} {
		if l := b.g.Text(id); len(l) != 0 {
			t.Errorf("Text(%d) = %v", id, l)
		}
	}
	for _, id := range []uint32{0, 1, 2, 4, 5, 6, 7, 8, 9, 10, 11, 12, top} {
		if l := b.g.Rows(id); len(l) != 0 {
			t.Errorf("Rows(%d) = %v", id, l)
		}
	}
	b.told(said(1, "a"))
}

// spoil: l and its spare room are other numbers now.
func spoil(l []uint32) {
	l = l[:cap(l)]
	for i := range l {
		l[i] = 0xbad
	}
}

func TestAnswersAreNewMemory(t *testing.T) {
	b := begin(t, 5, 6)
	b.gives(1, api.GlkWinOpen, 0, 0, 0, api.WinText, 0)
	b.gives(3, api.GlkWinOpen, 1, api.PaneBelow+api.PaneFixed, 3, api.WinGrid, 0)
	b.gives(7, api.GlkStrMemory, 0x300, 5, api.StreamBoth, 0)
	b.setFile("a", "abc")
	for range 3 {
		for _, c := range chars("text") {
			b.does(api.GlkPutStr, 2, c)
			b.does(api.GlkPutStr, 4, c)
		}
		for range 2 {
			spoil(b.g.Text(1))
			rows := b.g.Rows(3)
			for i, row := range rows {
				kept := slices.Clone(rows[(i+1)%3])
				spoil(row)
				if !slices.Equal(rows[(i+1)%3], kept) {
					t.Error("two rows share memory")
				}
			}
			out := b.g.Out()[:1]
			spoil(out[0].Text)
			out[0] = said(9, "x")
			data, _ := b.g.File("a")
			copy(data[:cap(data)], "xyzxyzxyz")
			names := b.g.Names()
			names[0] = "z"
			rest, _ := b.g.Rest(7)
			copy(rest[:cap(rest)], "xyzxyzxyz")
			b.m.rest(7)
			b.expectModel("spoilt")
		}
	}
}

func TestWhatIsHandedInIsNotKept(t *testing.T) {
	b := begin(t, 5, 6)
	data := []byte("abc")
	b.g.SetFile("a", data)
	b.m.files.Put("a", []byte("abc"))
	data[0] = 'x'
	b.expectModel("SetFile")
	b.gives(1, api.GlkStrMemory, 0x300, 5, api.StreamBoth, 0)
	laid := []byte("def")
	b.g.Lay(1, laid)
	b.m.layAll(1, []byte("def"))
	laid[0] = 'x'
	b.does(api.GlkStrClose, 1, 0)
	b.holds(0x300, "def\x00")
	args := []uint32{0x300, 5, api.StreamBoth, 77}
	b.call(api.GlkStrMemory, args...)
	args[0], args[3] = 0x400, 0
	b.does(api.GlkPutStr, 2, 'x')
	b.gives(77, api.GlkStrRock, 2)
	b.does(api.GlkStrClose, 2, 0)
	b.holds(0x300, "xef\x00")
}

// P16.1 to P16.4 by chance

func TestByChance(t *testing.T) {
	r := rand.New(rand.NewSource(16))
	for range 600 {
		someWorld(t, r, 250)
	}
}

func TestWorldsAreApart(t *testing.T) {
	r := rand.New(rand.NewSource(1616))
	for range 50 {
		a, b := someWorld(t, r, 0), someWorld(t, r, 0)
		for range 80 {
			a.someStep(r)
			b.someStep(r)
			a.expectModel("beside another one")
		}
	}
}
