package glk

import (
	"math/rand"
	"strings"
	"testing"

	"grotto/api"
)

// P16.2: windows

// sized: a window has so many columns and rows.
func (b *both) sized(win, columns, rows uint32) {
	b.t.Helper()
	b.pushes([]uint32{columns, rows}, 0, api.GlkWinSize, win, top, top)
}

func TestFirstExample(t *testing.T) {
	b := begin(t, 80, 24, line("go"))
	b.gives(1, api.GlkWinOpen, 0, 0, 0, api.WinText, 7)
	b.does(api.GlkWinSet, 1)
	b.does(api.GlkPut, 72)
	b.told(said(1, "H"))
	b.does(api.GlkLineAsk, 1, 300, 10, 0)
	b.pushes([]uint32{3, 1, 2, 0}, 0, api.GlkSelect, top)
	b.holds(299, "\x00go\x00")
	b.reads(1, "Hgo\n")
	b.refuses(api.ErrInput, api.GlkSelect, top)
}

func TestIdsOfWindows(t *testing.T) {
	b := begin(t, 80, 24)
	b.gives(1, api.GlkWinOpen, 0, 99, 99, api.WinText, 7)
	b.gives(2, api.GlkWinStream, 1)
	b.reference("abc", 3)
	b.gives(4, api.GlkStrFile, 3, api.StreamWrite, 0)
	// The window, its stream, the pair, its stream.
	b.gives(5, api.GlkWinOpen, 1, api.PaneAbove+api.PaneFixed, 3, api.WinGrid, 8)
	b.gives(6, api.GlkWinStream, 5)
	b.gives(7, api.GlkWinParent, 5)
	b.gives(7, api.GlkWinRoot)
	b.gives(8, api.GlkWinStream, 7)
	b.does(api.GlkWinRock, 7)
	for _, str := range []uint32{2, 6, 8} {
		b.does(api.GlkStrRock, str)
	}
	b.gives(9, api.GlkStrMemory, 0, 0, api.StreamRead, 0)
	b.gives(10, api.GlkWinOpen, 7, api.PaneLeft+api.PaneShare, 50, api.WinBlank, 9)
	b.gives(11, api.GlkWinStream, 10)
	b.gives(12, api.GlkWinRoot)
	b.gives(13, api.GlkWinStream, 12)
	// What is gone has its id for ever.
	b.does(api.GlkWinClose, 12, 0)
	b.does(api.GlkWinRoot)
	b.gives(14, api.GlkWinOpen, 0, 0, 0, api.WinGrid, 0)
	b.gives(16, api.GlkWinOpen, 14, api.PaneLeft+api.PaneFixed, 1, api.WinGrid, 0)
	b.gives(20, api.GlkRefName, 0, 0x240, 0)
}

func TestWinOpenOfEachKind(t *testing.T) {
	for kind := range uint32(10) {
		b := begin(t, 80, 24)
		if kind < 2 || kind > 4 {
			b.does(api.GlkWinOpen, 0, 0, 0, kind, 7)
			b.gives(1, api.GlkWinOpen, 0, 0, 0, api.WinText, 7)
			b.does(api.GlkWinOpen, 1, api.PaneLeft+api.PaneFixed, 1, kind, 7)
			continue
		}
		b.gives(1, api.GlkWinOpen, 0, 0, 0, kind, 7)
		b.gives(kind, api.GlkWinKind, 1)
		b.gives(3, api.GlkWinOpen, 1, api.PaneLeft+api.PaneFixed, 1, kind, 7)
		b.gives(kind, api.GlkWinKind, 3)
		b.gives(api.WinPair, api.GlkWinKind, 5)
		b.gives(7, api.GlkWinRock, 3)
	}
	b := begin(t, 80, 24)
	for _, kind := range []uint32{256 + 3, 1<<31 + 3, top} {
		b.does(api.GlkWinOpen, 0, 0, 0, kind, 7)
	}
	b.gives(1, api.GlkWinOpen, 0, 0, 0, 2, 7)
}

func TestWinOpenThatIsRefused(t *testing.T) {
	b := begin(t, 80, 24)
	// A window that is not there.
	for _, o := range []uint32{1, 2, 3, 1 << 31, top} {
		b.does(api.GlkWinOpen, o, api.PaneAbove+api.PaneFixed, 3, api.WinText, 0)
	}
	b.gives(1, api.GlkWinOpen, 0, 0, 0, api.WinText, 7)
	// There is a root.
	b.does(api.GlkWinOpen, 0, api.PaneAbove+api.PaneFixed, 3, api.WinText, 0)
	// What is no method; a stream, a reference for a window.
	for _, method := range []uint32{0, 1, 15, 20, 48, 64, 256 + 16, 1<<31 + 16, top, top - 15} {
		b.does(api.GlkWinOpen, 1, method, 3, api.WinText, 0)
	}
	b.reference("abc", 3)
	for _, o := range []uint32{2, 3, 4, top} {
		b.does(api.GlkWinOpen, o, api.PaneAbove+api.PaneFixed, 3, api.WinText, 0)
	}
	// None of these had an id.
	b.gives(4, api.GlkWinOpen, 1, api.PaneAbove+api.PaneFixed, 3, api.WinText, 0)
	b.does(api.GlkWinClose, 4, 0)
	b.does(api.GlkWinOpen, 4, api.PaneAbove+api.PaneFixed, 3, api.WinText, 0)
	b.does(api.GlkWinOpen, 6, api.PaneAbove+api.PaneFixed, 3, api.WinText, 0)
	b.gives(8, api.GlkWinOpen, 1, api.PaneAbove+api.PaneFixed, 3, api.WinText, 0)
}

func TestAsManyWindowsAsMayBe(t *testing.T) {
	b := begin(t, 80, 24)
	b.gives(1, api.GlkWinOpen, 0, 0, 0, api.WinText, 0)
	for i := range uint32(31) {
		b.gives(3+4*i, api.GlkWinOpen, 1, api.PaneAbove+api.PaneFixed, 3, api.WinText, 0)
	}
	b.does(api.GlkWinOpen, 1, api.PaneAbove+api.PaneFixed, 3, api.WinText, 0)
	b.does(api.GlkWinClose, 3, 0)
	b.gives(127, api.GlkWinOpen, 1, api.PaneAbove+api.PaneFixed, 3, api.WinText, 0)
	b.does(api.GlkWinOpen, 1, api.PaneAbove+api.PaneFixed, 3, api.WinText, 0)
}

func TestWinCloseCountsCharacters(t *testing.T) {
	for kind := uint32(2); kind <= 4; kind++ {
		b := begin(t, 5, 3, line("go"))
		b.gives(1, api.GlkWinOpen, 0, 0, 0, kind, 0)
		b.does(api.GlkWinSet, 1)
		b.write("ab\ncd")
		b.does(api.GlkPutStrWide, 2, top)
		b.wrote('x')
		b.does(api.GlkWinClear, 1)
		// Behind the last row, too; but not a line from outside.
		b.does(api.GlkWinCursor, 1, 100, 100)
		b.write("out")
		b.does(api.GlkLineAsk, 1, 0x300, 10, 0)
		b.call(api.GlkSelect, 0)
		b.gives(10, api.GlkStrTell, 2)
		b.pushes([]uint32{0, 10}, 0, api.GlkWinClose, 1, top)
		b.does(api.GlkWinRoot)
	}
}

func TestWinCloseHandsNumbers(t *testing.T) {
	open := func() *both {
		b := begin(t, 5, 3)
		b.gives(1, api.GlkWinOpen, 0, 0, 0, api.WinText, 0)
		b.does(api.GlkPutStr, 2, 'x')
		b.put(0x300, "\xff\xff\xff\xff\xff\xff\xff\xff\xff")
		return b
	}
	b := open()
	b.does(api.GlkWinClose, 1, 0)
	b.holds(0, "\x00\x00\x00\x00\x00\x00\x00\x00")
	b.pushed()
	b = open()
	b.does(api.GlkWinClose, 1, 0x300)
	b.holds(0x300, "\x00\x00\x00\x00\x00\x00\x00\x01\xff")
	// One that is refused: the window is gone, what was done ahead stays.
	b = open()
	b.refuses(api.FatalWrite, api.GlkWinClose, 1, 0x5ffa)
	b.does(api.GlkWinRoot)
	b.holds(0x5ffa, "\x00\x00\x00\x00\x00\x00")
	b = open()
	b.refusing(1, api.FatalOver)
	b.refuses(api.FatalOver, api.GlkWinClose, 1, top)
	b.pushed(0)
	b.willing()
	b.does(api.GlkWinNext, 0, 0)
	b.does(api.GlkStrNext, 0, 0)
}

// tree: the text 1; above it the grid 3; to the left of that the text 7; their pairs 9 and 5, of which 5 is the root. Streams have the numbers behind.
func tree(t *testing.T, inputs ...api.Input) *both {
	t.Helper()
	b := begin(t, 20, 10, inputs...)
	b.gives(1, api.GlkWinOpen, 0, 0, 0, api.WinText, 0)
	b.gives(3, api.GlkWinOpen, 1, api.PaneAbove+api.PaneFixed, 4, api.WinGrid, 0)
	b.gives(7, api.GlkWinOpen, 3, api.PaneLeft+api.PaneFixed, 5, api.WinText, 0)
	return b
}

// objects: just these windows and streams are there, each below 20.
func (b *both) objects(wins, strs []uint32) {
	b.t.Helper()
	next := func(sel uint32, l []uint32) {
		id := uint32(0)
		for _, want := range append(l, 0) {
			b.gives(want, sel, id, 0)
			id = want
		}
	}
	next(api.GlkWinNext, wins)
	next(api.GlkStrNext, strs)
}

func TestFamilies(t *testing.T) {
	b := tree(t)
	b.objects([]uint32{1, 3, 5, 7, 9}, []uint32{2, 4, 6, 8, 10})
	for win, l := range map[uint32][3]uint32{1: {3, 5, 9}, 3: {4, 9, 7}, 5: {1, 0, 0}, 7: {3, 9, 3}, 9: {1, 5, 1}, 2: {}, 4: {}, 0: {}, 11: {}, top: {}} {
		b.gives(l[0], api.GlkWinKind, win)
		b.gives(l[1], api.GlkWinParent, win)
		b.gives(l[2], api.GlkWinSibling, win)
	}
	b.gives(5, api.GlkWinRoot)
	for win, l := range map[uint32][2]uint32{1: {20, 6}, 3: {15, 4}, 5: {0, 0}, 7: {5, 4}, 9: {0, 0}} {
		b.sized(win, l[0], l[1])
	}
}

func TestWinCloseWithAllBelow(t *testing.T) {
	for _, x := range []struct {
		close, root uint32
		wins, strs  []uint32
	}{
		{1, 9, []uint32{3, 7, 9}, []uint32{4, 8, 10}},
		{3, 5, []uint32{1, 5, 7}, []uint32{2, 6, 8}},
		{5, 0, nil, nil},
		{7, 5, []uint32{1, 3, 5}, []uint32{2, 4, 6}},
		{9, 1, []uint32{1}, []uint32{2}},
	} {
		// Of each stream, whether it stays the current one.
		for _, current := range []uint32{0, 2, 4, 6, 8, 10} {
			b := tree(t)
			for _, str := range []uint32{2, 4, 6, 8, 10} {
				for range str {
					b.does(api.GlkPutStr, str, 'x')
				}
			}
			b.does(api.GlkStrSet, current)
			b.pushes([]uint32{0, x.close + 1}, 0, api.GlkWinClose, x.close, top)
			b.gives(x.root, api.GlkWinRoot)
			b.objects(x.wins, x.strs)
			left := uint32(0)
			for _, str := range x.strs {
				if str == current {
					left = current
				}
			}
			b.gives(left, api.GlkStrCurrent)
			b.write("x")
			// What is gone is gone for each call.
			b.does(api.GlkWinClose, x.close, top)
			b.pushed()
			b.does(api.GlkWinSet, x.close)
			b.does(api.GlkStrSet, x.close+1)
			b.gives(left, api.GlkStrCurrent)
			b.does(api.GlkPutStr, x.close+1, 'x')
			b.gives(11, api.GlkStrMemory, 0, 0, api.StreamRead, 0)
		}
	}
}

func TestWinCloseLeavesOtherCurrentStreams(t *testing.T) {
	b := tree(t)
	b.gives(11, api.GlkStrMemory, 0x300, 5, api.StreamWrite, 0)
	b.does(api.GlkStrSet, 11)
	b.does(api.GlkWinClose, 5, 0)
	b.gives(11, api.GlkStrCurrent)
}

func TestWinSize(t *testing.T) {
	b := tree(t)
	b.put(0x300, "\xff\xff\xff\xff\xff\xff\xff\xff\xff")
	b.does(api.GlkWinSize, 7, 0x300, 0x304)
	b.holds(0x300, "\x00\x00\x00\x05\x00\x00\x00\x04\xff")
	b.does(api.GlkWinSize, 1, 0x304, 0x300)
	b.holds(0x300, "\x00\x00\x00\x06\x00\x00\x00\x14\xff")
	b.pushes([]uint32{6}, 0, api.GlkWinSize, 1, 0, top)
	b.pushes([]uint32{20}, 0, api.GlkWinSize, 1, top, 0)
	b.pushes(nil, 0, api.GlkWinSize, 1, 0, 0)
	b.pushes([]uint32{4}, 0, api.GlkWinSize, 7, 0x300, top)
	b.holds(0x300, "\x00\x00\x00\x05")
	b.gives(11, api.GlkWinOpen, 1, api.PaneBelow+api.PaneFixed, 2, api.WinBlank, 0)
	b.sized(11, 0, 0)
	// Columns ahead of rows: what was done ahead stays.
	b.refuses(api.FatalWrite, api.GlkWinSize, 7, 0x308, 0x400)
	b.holds(0x308, "\x00\x00\x00\x05")
	b.refuses(api.FatalWrite, api.GlkWinSize, 7, 0x400, 0x30c)
	b.holds(0x30c, "\x00\x00\x00\x00")
	// Nothing is handed where there is no window.
	for _, o := range []uint32{0, 2, 15, top} {
		b.pushes(nil, 0, api.GlkWinSize, o, top, top)
	}
}

func TestWinArrange(t *testing.T) {
	b := tree(t)
	b.does(api.GlkWinArrange, 5, api.PaneAbove+api.PaneFixed, 7, 0)
	b.sized(1, 20, 3)
	b.does(api.GlkWinArrange, 5, api.PaneBelow+api.PaneFixed, 7, 0)
	b.sized(1, 20, 7)
	b.does(api.GlkWinArrange, 5, api.PaneBelow+api.PaneShare, 50, 7)
	b.sized(1, 20, 5)
	b.does(api.GlkWinArrange, 9, api.PaneRight+api.PaneFixed, 3, 7)
	b.sized(3, 3, 5)
	// Without a key that is there a fixed part is none.
	b.does(api.GlkWinClose, 7, 0)
	b.does(api.GlkWinArrange, 5, api.PaneBelow+api.PaneFixed, 6, 0)
	b.sized(1, 20, 0)
	b.does(api.GlkWinArrange, 5, api.PaneBelow+api.PaneFixed, 6, 1)
	b.sized(1, 20, 6)
	// A key that is none leaves the key.
	b.does(api.GlkWinArrange, 5, api.PaneBelow+api.PaneFixed, 4, 0)
	b.sized(1, 20, 4)
}

func TestWinArrangeThatIsRefused(t *testing.T) {
	b := tree(t)
	b.reference("abc", 11)
	try := func(o, method, key uint32) {
		t.Helper()
		b.does(api.GlkWinArrange, o, method, 1, key)
		b.sized(1, 20, 6)
		b.sized(3, 15, 4)
		b.sized(7, 5, 4)
	}
	const above, left = api.PaneAbove + api.PaneFixed, api.PaneLeft + api.PaneFixed
	for _, o := range []uint32{0, 1, 2, 3, 6, 7, 10, 11, 12, top} {
		try(o, above, 0)
		try(o, left, 0)
	}
	for _, method := range []uint32{left, api.PaneRight + api.PaneShare, 0, 2, 15, 20, 48, 256 + above, 1<<31 + above, top} {
		try(5, method, 0)
	}
	// A pair, a window elsewhere, a stream, a reference, or nothing for a key.
	for _, key := range []uint32{5, 9, 2, 4, 8, 11, 12, top} {
		try(5, above, key)
	}
	for _, key := range []uint32{1, 5, 9, 4, 11, top} {
		try(9, left, key)
	}
}

func TestWinStreamAndWinSet(t *testing.T) {
	b := tree(t)
	for _, win := range []uint32{1, 3, 5, 7, 9} {
		b.gives(win+1, api.GlkWinStream, win)
		b.does(api.GlkWinSet, win)
		b.gives(win+1, api.GlkStrCurrent)
		b.does(api.GlkStrSet, 0)
		b.does(api.GlkStrCurrent)
		b.does(api.GlkStrSet, win+1)
		b.gives(win+1, api.GlkStrCurrent)
		// A wrong one changes nothing.
		for _, o := range []uint32{2, 4, 11, top} {
			b.does(api.GlkWinSet, o)
			b.does(api.GlkWinStream, o)
			b.gives(win+1, api.GlkStrCurrent)
		}
		for _, o := range []uint32{1, 3, 9, 11, top} {
			b.does(api.GlkStrSet, o)
			b.gives(win+1, api.GlkStrCurrent)
		}
		b.does(api.GlkWinSet, 0)
		b.does(api.GlkStrCurrent)
		b.write("x")
	}
	b.told()
}

// P16.2: characters in windows

func TestCharactersInWindowsOfEachKind(t *testing.T) {
	b := begin(t, 6, 6)
	b.gives(1, api.GlkWinOpen, 0, 0, 0, api.WinText, 0)
	b.gives(3, api.GlkWinOpen, 1, api.PaneAbove+api.PaneFixed, 2, api.WinGrid, 0)
	b.gives(7, api.GlkWinOpen, 1, api.PaneBelow+api.PaneFixed, 1, api.WinBlank, 0)
	for _, str := range []uint32{2, 4, 6, 8, 10} {
		for _, c := range []uint32{0, 255, 256, 1<<24 + 10, top} {
			b.does(api.GlkPutStrWide, str, c)
		}
		// The lowest byte alone.
		b.does(api.GlkPutStr, str, 255)
		b.does(api.GlkPutStr, str, 256)
		b.does(api.GlkPutStr, str, top)
		b.gives(8, api.GlkStrTell, str)
		b.does(api.GlkStrSet, str)
		b.does(api.GlkPut, 256+'y')
		b.does(api.GlkPutWide, 256+'z')
		b.gives(10, api.GlkStrTell, str)
	}
	want := []uint32{0, 255, 256, 1<<24 + 10, top, 255, 0, 255, 'y', 256 + 'z'}
	b.told(api.Said{Win: 1, Text: want})
	rows := b.g.Rows(3)
	if !sameRows(rows, [][]uint32{want[:6], append(want[6:10:10], 32, 32)}) {
		t.Errorf("%v", rows)
	}
}

// grids: a grid alone, whose stream is the current one.
func grids(t *testing.T, w, h int, inputs ...api.Input) *both {
	t.Helper()
	b := begin(t, w, h, inputs...)
	b.gives(1, api.GlkWinOpen, 0, 0, 0, api.WinGrid, 0)
	b.does(api.GlkWinSet, 1)
	return b
}

func TestGrids(t *testing.T) {
	b := grids(t, 4, 3)
	b.shows(1, "    ", "    ", "    ")
	b.write("ab")
	b.shows(1, "ab  ", "    ", "    ")
	b.write("cd") // the last column
	b.write("e")
	b.shows(1, "abcd", "e   ", "    ")
	b.write("\nf")
	b.shows(1, "abcd", "e   ", "f   ")
	b.write("ghijk") // the last row; behind it there is none
	b.shows(1, "abcd", "e   ", "fghi")
	b.write("\n\n")
	b.does(api.GlkWinCursor, 1, 1, 1)
	b.write("xyz")
	b.shows(1, "abcd", "exyz", "fghi")
	b.write("l")
	b.shows(1, "abcd", "exyz", "lghi")
	b.write("\n")
	b.write("m")
	b.shows(1, "abcd", "exyz", "lghi")
	b.told()
	b.reads(1, "")
	b.does(api.GlkWinClear, 1)
	b.shows(1, "    ", "    ", "    ")
	b.write("n")
	b.shows(1, "n   ", "    ", "    ")
}

func TestTenIsTheNextRowOnly(t *testing.T) {
	b := grids(t, 3, 3)
	// Behind the last column the cursor is in the next row already.
	b.write("abc\nd")
	b.shows(1, "abc", "   ", "d  ")
	b.does(api.GlkWinClear, 1)
	b.write("\n")
	b.wrote(10 + 256)
	b.does(api.GlkPut, 256+10)
	b.write("e")
	if rows := b.g.Rows(1); !sameRows(rows, [][]uint32{chars("   "), {10 + 256, 32, 32}, chars("e  ")}) {
		t.Errorf("%v", rows)
	}
}

func TestCursorOutsideOfTheWindow(t *testing.T) {
	for _, at := range [][2]uint32{{3, 0}, {0, 2}, {3, 2}, {100, 1}, {1, 100}, {1 << 31, 0}, {0, 1 << 31}, {top, 0}, {0, top}, {top, top}} {
		b := grids(t, 3, 2)
		b.does(api.GlkWinCursor, 1, at[0], at[1])
		b.write("abc")
		b.shows(1, "   ", "   ")
		b.gives(3, api.GlkStrTell, 2)
		// The row behind it may be one of the window's.
		b.write("\nd")
		if at[1] == 0 {
			b.shows(1, "   ", "d  ")
		} else {
			b.shows(1, "   ", "   ")
		}
		b.does(api.GlkWinCursor, 1, 2, 1)
		b.write("e")
		if at[1] == 0 {
			b.shows(1, "   ", "d e")
		} else {
			b.shows(1, "   ", "  e")
		}
	}
	// Of windows that are no grids there is no cursor.
	b := tree(t)
	for _, o := range []uint32{0, 1, 2, 5, 7, 9, 11, top} {
		b.does(api.GlkWinCursor, o, 1, 1)
	}
	b.does(api.GlkPutStr, 4, 'x')
	b.shows(3, "x              ", blanks(15), blanks(15), blanks(15))
}

func blanks(n int) string { return strings.Repeat(" ", n) }

func TestAGridThatBecomesSmallerAndGreaterAgain(t *testing.T) {
	b := begin(t, 4, 4)
	b.gives(1, api.GlkWinOpen, 0, 0, 0, api.WinGrid, 0)
	b.does(api.GlkWinSet, 1)
	b.write("abcdefghijklmno")
	b.shows(1, "abcd", "efgh", "ijkl", "mno ")
	// The cursor is outside now.
	b.gives(3, api.GlkWinOpen, 1, api.PaneRight+api.PaneFixed, 2, api.WinText, 0)
	b.shows(1, "ab", "ef", "ij", "mn")
	b.write("x")
	b.shows(1, "ab", "ef", "ij", "mn")
	b.does(api.GlkWinCursor, 1, 1, 1)
	b.write("yz")
	b.shows(1, "ab", "ey", "zj", "mn")
	b.does(api.GlkWinArrange, 5, api.PaneRight+api.PaneFixed, 4, 0)
	b.shows(1, "", "", "", "")
	b.write("x")
	b.does(api.GlkWinClose, 3, 0)
	// What stood there stands there again, and the cursor is where it was.
	b.shows(1, "abcd", "eygh", "zjkl", "mno ")
	b.write("w")
	b.shows(1, "abcd", "eygh", "zwkl", "mno ")
	b.gives(7, api.GlkWinOpen, 1, api.PaneBelow+api.PaneFixed, 3, api.WinText, 0)
	b.shows(1, "abcd")
	b.write("x")
	b.does(api.GlkWinArrange, 9, api.PaneBelow+api.PaneFixed, 2, 0)
	b.shows(1, "abcd", "eygh")
	// What is cleared is cleared where nothing is seen, too.
	b.does(api.GlkWinClear, 1)
	b.does(api.GlkWinClose, 7, 0)
	b.shows(1, blanks(4), blanks(4), blanks(4), blanks(4))
}

func TestGridsOfNoPlaces(t *testing.T) {
	for _, size := range [][2]int{{0, 0}, {0, 3}, {3, 0}} {
		b := grids(t, size[0], size[1])
		b.write("ab\ncd")
		b.shows(1, make([]string, size[1])...)
		b.sized(1, uint32(size[0]), uint32(size[1]))
		b.gives(5, api.GlkStrTell, 2)
	}
	b := grids(t, 1, 1)
	b.write("ab")
	b.shows(1, "a")
}

func TestAGridOfAWholeScreen(t *testing.T) {
	g, _ := New(1000, 1000)
	m := newRoom()
	g.Call(m, api.GlkWinOpen, 0, 0, 0, api.WinGrid, 0)
	g.Call(m, api.GlkWinSet, 1)
	g.Call(m, api.GlkWinCursor, 1, 999, 998)
	g.Put('a')
	g.Call(m, api.GlkWinCursor, 1, 999, 999)
	g.Put('b')
	g.Put('c')
	rows := g.Rows(1)
	n := 0
	for _, row := range rows {
		for _, c := range row {
			if c != 32 {
				n++
			}
		}
	}
	if len(rows) != 1000 || n != 2 || rows[998][999] != 'a' || rows[999][999] != 'b' {
		t.Errorf("%d rows, %d characters", len(rows), n)
	}
}

func TestWinClear(t *testing.T) {
	b := tree(t)
	for _, str := range []uint32{2, 4, 6, 8, 10} {
		b.does(api.GlkPutStr, str, 'x')
		b.does(api.GlkPutStr, str, 'y')
	}
	// Of a wrong one, and of windows that have nothing, nothing is cleared.
	for _, o := range []uint32{0, 2, 4, 5, 9, 11, top} {
		b.does(api.GlkWinClear, o)
	}
	b.reads(1, "xy")
	b.does(api.GlkWinClear, 1)
	b.reads(1, "")
	b.reads(7, "xy")
	b.does(api.GlkPutStr, 2, 'z')
	b.reads(1, "z")
	b.shows(3, "xy"+blanks(13), blanks(15), blanks(15), blanks(15))
	b.does(api.GlkWinClear, 3)
	b.does(api.GlkPutStr, 4, 'z')
	b.shows(3, "z"+blanks(14), blanks(15), blanks(15), blanks(15))
	b.does(api.GlkWinClear, 7)
	b.reads(7, "")
	b.told(said(1, "xy"), said(7, "xy"), said(1, "z"))
	for _, str := range []uint32{2, 4} {
		b.gives(3, api.GlkStrTell, str)
	}
}

// By chance

func TestGridsByChance(t *testing.T) {
	r := rand.New(rand.NewSource(1624))
	for range 200 {
		b := begin(t, r.Intn(7), r.Intn(6))
		b.gives(1, api.GlkWinOpen, 0, 0, 0, api.WinGrid, 0)
		b.does(api.GlkWinSet, 1)
		b.call(api.GlkWinOpen, 1, someOf[uint32](r, 16, 17, 18, 19), uint32(r.Intn(3)), api.WinGrid, 0)
		for range 60 {
			switch r.Intn(12) {
			case 0:
				b.call(api.GlkWinArrange, 5, someOf[uint32](r, 16, 17, 18, 19, 32, 34), someOf[uint32](r, 0, 1, 2, 3, 50, 100), 0)
			case 1:
				b.call(api.GlkWinCursor, someOf[uint32](r, 1, 3), b.someArg(r, 'x'), b.someArg(r, 'x'))
			case 2:
				b.call(api.GlkWinSet, someOf[uint32](r, 1, 3))
			case 3:
				if r.Intn(5) == 0 {
					b.call(api.GlkWinClear, 1)
				}
			default:
				b.call(api.GlkPutWide, someOf(r, 'a', 'b', 10, b.someArg(r, 'c')))
			}
		}
	}
}
