package glk

import (
	"slices"
	"testing"

	"grotto/api"
)

// P16.2: what is asked for

// cancels: GlkLineCancel of a window, and what it pushes: did it ask for a line?
func (b *both) cancels(win uint32, asked bool) {
	b.t.Helper()
	want := []uint32{0, 0, 0, 0}
	if asked {
		want = []uint32{api.EventLine, win, 0, 0}
	}
	b.pushes(want, 0, api.GlkLineCancel, win, top)
}

func TestCancel(t *testing.T) {
	b := tree(t, char('a'), line("go"), char('b'))
	for _, win := range []uint32{1, 3, 7} {
		b.cancels(win, false)
		b.does(api.GlkCharCancel, win)
		b.does(api.GlkLineAsk, win, 0x300, 10, 0)
		b.does(api.GlkCharCancel, win) // it asks for a line still
		b.cancels(win, true)
		b.cancels(win, false)
		b.does(api.GlkCharAsk, win)
		b.cancels(win, false) // it asks for a character still
		b.does(api.GlkSelect, top)
		if b.g.Left() == 2 {
			b.pushed(api.EventChar, win, 'a', 0)
		} else {
			b.pushed(api.EventChar, win, 'b', 0)
			return
		}
		b.does(api.GlkCharAsk, win)
		b.does(api.GlkCharCancel, win)
		b.does(api.GlkLineAsk, win, 0x300, 10, 0)
		b.cancels(win, true)
		b.does(api.GlkCharAsk, win)
		b.does(api.GlkCharCancel, win)
	}
	t.Error("no input is left")
}

func TestCancelHandsNumbers(t *testing.T) {
	b := begin(t, 10, 10)
	b.gives(1, api.GlkWinOpen, 0, 0, 0, api.WinText, 0)
	b.put(0x300, "\xff\xff\xff\xff\xff\xff\xff\xff\xff\xff\xff\xff\xff\xff\xff\xff\xff")
	b.does(api.GlkLineAsk, 1, 0x340, 10, 0)
	b.does(api.GlkLineCancel, 1, 0x300)
	b.holds(0x300, "\x00\x00\x00\x03\x00\x00\x00\x01\x00\x00\x00\x00\x00\x00\x00\x00\xff")
	b.does(api.GlkLineCancel, 1, 0x300)
	b.holds(0x300, "\x00\x00\x00\x00\x00\x00\x00\x00\x00\x00\x00\x00\x00\x00\x00\x00\xff")
	b.does(api.GlkLineAsk, 1, 0x340, 10, 0)
	b.pushes(nil, 0, api.GlkLineCancel, 1, 0)
	b.cancels(1, false)
	// One that is refused has cancelled, and handed what came ahead.
	b.does(api.GlkLineAsk, 1, 0x340, 10, 0)
	b.refuses(api.FatalWrite, api.GlkLineCancel, 1, 0x3f8)
	b.holds(0x3f8, "\x00\x00\x00\x03\x00\x00\x00\x01\x00")
	b.cancels(1, false)
	// What is no window is handed nothing.
	for _, o := range []uint32{0, 2, 3, top} {
		b.pushes(nil, 0, api.GlkLineCancel, o, top)
		b.pushes(nil, 0, api.GlkCharCancel, o)
	}
}

func TestAskingTwice(t *testing.T) {
	b := begin(t, 10, 10, line("first"), char('x'), line("second"))
	b.gives(1, api.GlkWinOpen, 0, 0, 0, api.WinText, 0)
	b.does(api.GlkLineAsk, 1, 0x300, 3, 0)
	// Another line, or a character, is not asked for then.
	b.does(api.GlkLineAsk, 1, 0x340, 20, 0)
	b.does(api.GlkCharAsk, 1)
	b.pushes([]uint32{3, 1, 3, 0}, 0, api.GlkSelect, top)
	b.holds(0x300, "fir\x00")
	b.holds(0x340, "\x00")
	b.does(api.GlkCharAsk, 1)
	b.does(api.GlkLineAsk, 1, 0x340, 20, 0)
	b.does(api.GlkCharAsk, 1)
	b.pushes([]uint32{2, 1, 'x', 0}, 0, api.GlkSelect, top)
	b.refuses(api.ErrInput, api.GlkSelect, top)
	b.pushed()
}

func TestWindowsThatDoNotAsk(t *testing.T) {
	b := tree(t, line("go"), char('x'))
	b.gives(11, api.GlkWinOpen, 1, api.PaneBelow+api.PaneFixed, 2, api.WinBlank, 0)
	// Neither a pair nor a blank one; nor what is none.
	for _, o := range []uint32{5, 9, 11, 13, 0, 2, 4, 15, top} {
		b.does(api.GlkLineAsk, o, 0x300, 10, 0)
		b.does(api.GlkCharAsk, o)
	}
	b.cancels(11, false)
	b.refuses(api.ErrInput, api.GlkSelect, top)
	b.pushed()
	b.holds(0x300, "\x00\x00")
}

// P16.3

func TestLinesOfEachLength(t *testing.T) {
	for _, n := range []uint32{0, 1, 3, 4, 5, 100, 1 << 31, top} {
		for _, text := range []string{"", "g", "goes", "goes\n", "goes on and on"} {
			for kind := uint32(3); kind <= 4; kind++ {
				b := begin(t, 10, 10, line(text))
				b.gives(1, api.GlkWinOpen, 0, 0, 0, kind, 0)
				b.put(0x300, "####################")
				b.does(api.GlkLineAsk, 1, 0x300, n, 3)
				want := text[:min(len(text), int(n))]
				b.pushes([]uint32{3, 1, uint32(len(want)), 0}, 0, api.GlkSelect, top)
				b.holds(0x300, want+"####################"[len(want):])
				b.does(api.GlkStrTell, 2)
				if kind == 3 {
					b.reads(1, want+"\n")
					b.told(said(1, want+"\n"))
				} else {
					b.does(api.GlkPutStr, 2, 'x')
					b.told()
				}
				b.cancels(1, false)
			}
		}
	}
}

func TestLinesToNoPlace(t *testing.T) {
	for _, addr := range []uint32{api.NoAddr, api.StackAddr} {
		b := begin(t, 10, 10, line("goes on"), line("and on"))
		b.gives(1, api.GlkWinOpen, 0, 0, 0, api.WinText, 0)
		b.does(api.GlkLineAsk, 1, addr, 4, 0)
		b.pushes([]uint32{3, 1, 4, 0}, 0, api.GlkSelect, top)
		b.reads(1, "goes\n")
		b.does(api.GlkLineAsk, 1, addr, 6, 0)
		b.pushes(nil, 0, api.GlkSelect, 0)
		b.reads(1, "goes\nand on\n")
		b.holds(0, "\x00\x00\x00\x00")
		b.holds(top-3, "\x00\x00\x00\x00\x00\x00")
	}
}

func TestLinesGoOnModulo2To32(t *testing.T) {
	b := begin(t, 10, 10, line("goes on"))
	b.gives(1, api.GlkWinOpen, 0, 0, 0, api.WinText, 0)
	b.does(api.GlkLineAsk, 1, top-2, 10, 0)
	b.does(api.GlkSelect, 0)
	b.holds(top-2, "goes on\x00")
}

func TestLinesOfWideCharacters(t *testing.T) {
	in := api.Input{Line: true, Text: []uint32{'a', 0, 10, 255, 256, 10 + 256, 1 << 31, top}}
	b := begin(t, 10, 10, in, in)
	b.gives(1, api.GlkWinOpen, 0, 0, 0, api.WinText, 0)
	b.does(api.GlkLineAsk, 1, 0x300, 7, 0)
	b.pushes([]uint32{3, 1, 7, 0}, 0, api.GlkSelect, top)
	b.holds(0x300, "a\x00\n\xff???\x00")
	b.reads(1, "a\x00\n\xff???\n")
	b.does(api.GlkLineAsk, 1, 0, 20, 0)
	b.does(api.GlkSelect, 0)
	b.reads(1, "a\x00\n\xff???\na\x00\n\xff????\n")
	if !slices.Equal(in.Text, []uint32{'a', 0, 10, 255, 256, 10 + 256, 1 << 31, top}) {
		t.Error("what was handed in is changed")
	}
}

func TestCharactersFromOutside(t *testing.T) {
	b := begin(t, 10, 10, char(), char('x'), char('y', 'z'), char(256), char(top), char(0))
	b.gives(1, api.GlkWinOpen, 0, 0, 0, api.WinText, 0)
	for i, want := range []uint32{0, 'x', 'y', 256, top, 0} {
		b.does(api.GlkCharAsk, 1)
		b.pushes([]uint32{2, 1, want, 0}, 0, api.GlkSelect, top)
		if b.g.Left() != 5-i {
			t.Errorf("Left() = %d", b.g.Left())
		}
		b.does(api.GlkCharCancel, 1)
	}
	b.told()
	b.does(api.GlkStrTell, 2)
	b.refuses(api.ErrInput, api.GlkSelect, top)
}

func TestSelectWithoutAnInput(t *testing.T) {
	b := begin(t, 10, 10)
	b.refuses(api.ErrInput, api.GlkSelect, 0)
	b.gives(1, api.GlkWinOpen, 0, 0, 0, api.WinText, 0)
	b.refuses(api.ErrInput, api.GlkSelect, 0x300)
	b.does(api.GlkLineAsk, 1, 0x300, 10, 0)
	b.refuses(api.ErrInput, api.GlkSelect, top)
	b.refuses(api.ErrInput, api.GlkSelect, 0x400) // ahead of a Space that refuses
	b.pushed()
	// It asks still.
	b.cancels(1, true)
}

func TestInputsThatNobodyAsksFor(t *testing.T) {
	b := begin(t, 10, 10, line("a"), char('b'), line("c"), line("d"), char('e'), char('f'), line("g"), char('h'))
	b.gives(1, api.GlkWinOpen, 0, 0, 0, api.WinText, 0)
	b.does(api.GlkCharAsk, 1)
	b.pushes([]uint32{2, 1, 'b', 0}, 0, api.GlkSelect, top)
	b.does(api.GlkLineAsk, 1, 0x300, 10, 0)
	b.does(api.GlkSelect, 0)
	b.holds(0x300, "c\x00")
	b.does(api.GlkCharAsk, 1)
	b.pushes([]uint32{2, 1, 'e', 0}, 0, api.GlkSelect, top)
	b.does(api.GlkLineAsk, 1, 0x300, 10, 0)
	b.does(api.GlkSelect, 0)
	b.holds(0x300, "g\x00")
	if b.g.Left() != 1 {
		t.Errorf("Left() = %d", b.g.Left())
	}
	b.reads(1, "c\ng\n")
	// All that are left are taken where none is asked for.
	b.refuses(api.ErrInput, api.GlkSelect, top)
	if b.g.Left() != 0 {
		t.Errorf("Left() = %d", b.g.Left())
	}
	b.pushed()
}

func TestAskedForByTwoWindowsAtOnce(t *testing.T) {
	b := tree(t, line("one"), char('x'), line("two"), char('y'), line("three"), char('z'))
	// Lines: the least id, whichever asked first.
	b.does(api.GlkLineAsk, 7, 0x340, 10, 0)
	b.does(api.GlkLineAsk, 1, 0x300, 10, 0)
	b.does(api.GlkCharAsk, 3)
	b.pushes([]uint32{3, 1, 3, 0}, 0, api.GlkSelect, top)
	b.holds(0x300, "one\x00")
	b.holds(0x340, "\x00")
	b.pushes([]uint32{2, 3, 'x', 0}, 0, api.GlkSelect, top)
	b.pushes([]uint32{3, 7, 3, 0}, 0, api.GlkSelect, top)
	b.holds(0x340, "two\x00")
	b.does(api.GlkCharAsk, 7)
	b.does(api.GlkCharAsk, 3)
	b.pushes([]uint32{2, 3, 'y', 0}, 0, api.GlkSelect, top)
	b.pushes([]uint32{2, 7, 'z', 0}, 0, api.GlkSelect, top) // behind a line that nobody asks for
	b.reads(1, "one\n")
	b.reads(7, "two\n")
	b.told(said(1, "one\n"), said(7, "two\n"))
}

func TestAWindowThatAskedIsGone(t *testing.T) {
	b := tree(t, line("go"), char('x'))
	b.does(api.GlkLineAsk, 7, 0x300, 10, 0)
	b.does(api.GlkLineAsk, 3, 0x340, 10, 0)
	b.does(api.GlkWinClose, 3, 0)
	b.pushes([]uint32{3, 7, 2, 0}, 0, api.GlkSelect, top)
	b.does(api.GlkCharAsk, 7)
	b.does(api.GlkWinClose, 7, 0)
	b.refuses(api.ErrInput, api.GlkSelect, top)
	b.holds(0x340, "\x00\x00")
}

func TestSelectOfASpaceThatRefuses(t *testing.T) {
	b := begin(t, 10, 10, line("goes"), line("on"), char('x'), char('y'))
	b.gives(1, api.GlkWinOpen, 0, 0, 0, api.WinText, 0)
	b.does(api.GlkLineAsk, 1, 0x3fe, 10, 0)
	b.refuses(api.FatalWrite, api.GlkSelect, top)
	// The input is taken, it is asked for no more, and laid as far as could be; nothing came behind that.
	b.holds(0x3fe, "go\x00")
	b.pushed()
	b.told()
	b.cancels(1, false)
	b.does(api.GlkLineAsk, 1, 0x300, 10, 0)
	b.refuses(api.FatalWrite, api.GlkSelect, 0x3fc)
	b.holds(0x300, "on\x00")
	b.holds(0x3fc, "\x00\x00\x00\x03\x00")
	b.reads(1, "on\n")
	b.does(api.GlkCharAsk, 1)
	b.refusing(2, api.FatalOver)
	b.refuses(api.FatalOver, api.GlkSelect, top)
	b.willing()
	b.pushed(2, 1)
	if b.g.Left() != 1 {
		t.Errorf("Left() = %d", b.g.Left())
	}
	b.refuses(api.ErrInput, api.GlkSelect, top)
}

func TestLinesInAGrid(t *testing.T) {
	b := grids(t, 5, 2, line("go"))
	b.write("ab")
	b.does(api.GlkLineAsk, 1, 0x300, 10, 0)
	b.pushes([]uint32{3, 1, 2, 0}, 0, api.GlkSelect, top)
	b.holds(0x300, "go\x00")
	b.write("c")
	b.shows(1, "abc  ", "     ")
	b.gives(3, api.GlkStrTell, 2)
}
