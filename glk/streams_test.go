package glk

import (
	"slices"
	"strings"
	"testing"

	"grotto/api"
)

// P16.2: references

func TestReferences(t *testing.T) {
	b := begin(t, 0, 0)
	b.reference("abc", 1)
	b.reference("abc", 2) // another one to the same file
	b.reference("ab", 3)
	for id := uint32(1); id <= 3; id++ {
		b.does(api.GlkRefExists, id)
	}
	b.setFile("abc", "text")
	b.gives(1, api.GlkRefExists, 1)
	b.gives(1, api.GlkRefExists, 2)
	b.does(api.GlkRefExists, 3)
	b.does(api.GlkRefDelete, 3)
	b.does(api.GlkRefDelete, 2)
	b.does(api.GlkRefExists, 1)
	if len(b.g.Names()) != 0 {
		t.Errorf("%q", b.g.Names())
	}
	// A file of no bytes is one.
	b.setFile("ab", "")
	b.gives(1, api.GlkRefExists, 3)
	b.does(api.GlkRefDestroy, 3)
	b.does(api.GlkRefExists, 3)
	b.does(api.GlkRefDelete, 3)
	b.has("ab", "")
	b.does(api.GlkRefDestroy, 3)
	b.reference("ab", 4)
	b.gives(1, api.GlkRefExists, 4)
}

func TestRefDeleteOfAFileThatIsOpen(t *testing.T) {
	b := begin(t, 0, 0)
	b.reference("abc", 1)
	b.gives(2, api.GlkStrFile, 1, api.StreamWrite, 0)
	b.does(api.GlkRefDelete, 1)
	b.gives(1, api.GlkRefExists, 1)
	b.does(api.GlkPutStr, 2, 'x')
	// Without its reference a stream goes on.
	b.does(api.GlkRefDestroy, 1)
	b.does(api.GlkPutStr, 2, 'y')
	b.pushes([]uint32{0, 2}, 0, api.GlkStrClose, 2, top)
	b.has("abc", "xy")
	b.does(api.GlkRefDelete, 1)
	b.has("abc", "xy")
	b.reference("abc", 3)
	b.does(api.GlkRefDelete, 3)
	b.does(api.GlkRefExists, 3)
}

func TestNamesOfReferences(t *testing.T) {
	b := begin(t, 0, 0)
	next := uint32(1)
	for _, name := range []string{"a", strings.Repeat("n", 31), strings.Repeat("n", 32), "\xff", "a b/..", strings.Repeat("\x01", 32)} {
		b.reference(name, next)
		b.setFile(name, "x")
		b.gives(1, api.GlkRefExists, next)
		next++
	}
	// None, and one that is too long.
	for _, name := range []string{"", strings.Repeat("n", 33), strings.Repeat("n", 34), strings.Repeat("n", 300)} {
		b.put(0x500, name+"\x00")
		b.does(api.GlkRefName, 0, 0x500, 0)
	}
	// Whatever it is used for.
	for _, usage := range []uint32{1, 2, 3, 0x102, top} {
		b.put(0x500, "a\x00")
		b.gives(next, api.GlkRefName, usage, 0x500, 5)
		b.gives(1, api.GlkRefExists, next)
		b.gives(5, api.GlkRefRock, next)
		next++
	}
}

func TestWhereANameLies(t *testing.T) {
	b := begin(t, 0, 0)
	b.setFile("abcdef", "x")
	// NoAddr and StackAddr are addresses like others here, and the last one is followed by the first one.
	for i, addr := range []uint32{0, 0x400 - 3, 0x6000 - 7, top, top - 1, top - 5, top - 6} {
		b.put(addr, "abcdef\x00")
		b.gives(uint32(i)+1, api.GlkRefName, 0, addr, 0)
		b.gives(1, api.GlkRefExists, uint32(i)+1)
		b.put(addr, "\x00\x00\x00\x00\x00\x00")
	}
	b.pushed()
	// No more is read than up to the 0, and 33 bytes at most.
	b.put(0x5ffc, "abc\x00")
	b.gives(8, api.GlkRefName, 0, 0x5ffc, 0)
	b.put(0x5ffc, "abcd")
	b.refuses(api.FatalRead, api.GlkRefName, 0, 0x5ffc, 0)
	b.refuses(api.FatalRead, api.GlkRefName, 0, 0x6000, 0)
	b.put(0x6000-33, strings.Repeat("n", 33))
	b.does(api.GlkRefName, 0, 0x6000-33, 0)
	b.refuses(api.FatalRead, api.GlkRefName, 0, 0x6000-32, 0)
	b.refusing(33, api.FatalHeap)
	b.does(api.GlkRefName, 0, 0x6000-33, 0)
	b.refusing(32, api.FatalHeap)
	b.refuses(api.FatalHeap, api.GlkRefName, 0, 0x6000-33, 0)
	b.willing()
	b.reference("abc", 9)
}

func TestAsManyReferencesAsMayBe(t *testing.T) {
	b := begin(t, 0, 0)
	for id := uint32(1); id <= 64; id++ {
		b.reference("abc", id)
	}
	b.put(0x240, "ab\x00")
	b.does(api.GlkRefName, 0, 0x240, 0)
	// A name that is not there is looked for all the same.
	b.refuses(api.FatalRead, api.GlkRefName, 0, 0x6000, 0)
	b.does(api.GlkRefDestroy, 7)
	b.reference("abc", 65)
	b.does(api.GlkRefName, 0, 0x240, 0)
	// Other objects do not count.
	b.gives(66, api.GlkWinOpen, 0, 0, 0, api.WinText, 0)
	b.gives(68, api.GlkStrFile, 65, api.StreamWrite, 0)
	b.does(api.GlkRefDestroy, 1)
	b.reference("abc", 69)
}

// P16.2: streams on files

func TestStreamsOnFiles(t *testing.T) {
	b := begin(t, 0, 0)
	b.reference("abc", 1)
	for _, mode := range []uint32{0, 4, 6, 7, 256 + 1, 1<<31 + 1, top, api.StreamRead} {
		b.does(api.GlkStrFile, 1, mode, 0)
		b.does(api.GlkStrFileWide, 1, mode, 0)
	}
	b.gives(2, api.GlkStrFile, 1, api.StreamWrite, 9)
	b.gives(9, api.GlkStrRock, 2)
	// While it is open, there is no other one.
	for _, mode := range []uint32{1, 2, 3, 5} {
		b.does(api.GlkStrFile, 1, mode, 0)
		b.does(api.GlkStrFileWide, 1, mode, 0)
	}
	b.does(api.GlkStrSet, 2)
	b.write("text")
	b.gives(4, api.GlkStrTell, 2)
	b.pushes([]uint32{0, 4}, 0, api.GlkStrClose, 2, top)
	b.does(api.GlkStrCurrent)
	b.has("abc", "text")
	b.gives(3, api.GlkStrFile, 1, api.StreamAppend, 0)
	b.gives(4, api.GlkStrTell, 3)
	b.does(api.GlkPutStr, 3, '!')
	b.does(api.GlkStrClose, 3, 0)
	b.has("abc", "text!")
	// Two that read.
	b.gives(4, api.GlkStrFile, 1, api.StreamRead, 0)
	b.gives(5, api.GlkStrFile, 1, api.StreamRead, 0)
	b.gives('t', api.GlkGetStr, 4)
	b.gives('t', api.GlkGetStr, 5)
	b.gives('e', api.GlkGetStr, 4)
	b.does(api.GlkPutStr, 4, 'n') // does not write
	b.pushes([]uint32{2, 0}, 0, api.GlkStrClose, 4, top)
	b.does(api.GlkStrClose, 5, 0)
	b.gives(6, api.GlkStrFile, 1, api.StreamBoth, 0)
	b.does(api.GlkStrSeek, 6, 1, 0)
	b.does(api.GlkPutStr, 6, 'E')
	b.gives('x', api.GlkGetStr, 6)
	b.does(api.GlkStrClose, 6, 0)
	b.has("abc", "tExt!")
	// Objects that are no references.
	b.gives(7, api.GlkWinOpen, 0, 0, 0, api.WinText, 0)
	for _, o := range []uint32{0, 2, 6, 7, 8, 9, top} {
		b.does(api.GlkStrFile, o, api.StreamRead, 0)
		b.does(api.GlkStrFileWide, o, api.StreamRead, 0)
	}
	b.gives(9, api.GlkStrFile, 1, api.StreamRead, 0)
}

func TestWideStreamsOnFiles(t *testing.T) {
	b := begin(t, 0, 0)
	b.reference("abc", 1)
	b.gives(2, api.GlkStrFileWide, 1, api.StreamWrite, 0)
	for _, c := range []uint32{'a', 255, 256, top} {
		b.does(api.GlkPutStrWide, 2, c)
	}
	b.does(api.GlkPutStr, 2, 256+'b')
	b.gives(5, api.GlkStrTell, 2)
	b.pushes([]uint32{0, 5}, 0, api.GlkStrClose, 2, top)
	b.has("abc", "\x00\x00\x00a\x00\x00\x00\xff\x00\x00\x01\x00\xff\xff\xff\xff\x00\x00\x00b")
	b.gives(3, api.GlkStrFileWide, 1, api.StreamRead, 0)
	for _, c := range []uint32{'a', 255, 256, top, 'b', top} {
		b.gives(c, api.GlkGetStrWide, 3)
	}
	b.does(api.GlkStrSeek, 3, 0, 0)
	for _, c := range []uint32{'a', 255, 63, 63, 'b', top} {
		b.gives(c, api.GlkGetStr, 3)
	}
	b.pushes([]uint32{10, 0}, 0, api.GlkStrClose, 3, top)
	b.gives(4, api.GlkStrFile, 1, api.StreamRead, 0)
	for range 3 {
		b.does(api.GlkGetStrWide, 4)
	}
	b.gives('a', api.GlkGetStrWide, 4)
}

func TestNarrowStreamsOnFiles(t *testing.T) {
	b := begin(t, 0, 0)
	b.reference("abc", 1)
	b.gives(2, api.GlkStrFile, 1, api.StreamBoth, 0)
	for _, c := range []uint32{'a', 255, 256, top, 10} {
		b.does(api.GlkPutStrWide, 2, c)
		b.does(api.GlkPutStr, 2, c)
	}
	b.does(api.GlkStrClose, 2, 0)
	b.has("abc", "aa\xff\xff?\x00?\xff\n\n")
}

func TestAsManyStreamsAsMayBe(t *testing.T) {
	b := begin(t, 40, 20)
	b.reference("abc", 1)
	b.setFile("abc", "x")
	// Those of windows do not count.
	b.gives(2, api.GlkWinOpen, 0, 0, 0, api.WinText, 0)
	id := uint32(4)
	for range 32 {
		b.gives(id, api.GlkStrFile, 1, api.StreamRead, 0)
		b.gives(id+1, api.GlkStrMemory, 0, 0, api.StreamRead, 0)
		id += 2
	}
	b.does(api.GlkStrFile, 1, api.StreamRead, 0)
	b.does(api.GlkStrFileWide, 1, api.StreamRead, 0)
	b.does(api.GlkStrMemory, 0, 0, api.StreamRead, 0)
	b.does(api.GlkStrMemWide, 0x300, 5, api.StreamRead, 0)
	b.gives(id, api.GlkWinOpen, 2, api.PaneAbove+api.PaneFixed, 2, api.WinText, 0)
	b.does(api.GlkStrClose, 4, 0)
	b.gives(id+4, api.GlkStrMemory, 0, 0, api.StreamRead, 0)
	b.does(api.GlkStrFile, 1, api.StreamRead, 0)
}

func TestAFileThatIsFull(t *testing.T) {
	b := begin(t, 0, 0)
	b.setFile("b", strings.Repeat("x", 1048576-6))
	b.reference("abc", 1)
	b.gives(2, api.GlkStrFile, 1, api.StreamBoth, 0)
	b.does(api.GlkStrSet, 2)
	b.lays(2, "abcdefg", false)
	b.lays(2, "abcd", true)
	b.write("efgh") // for g and h there is no room
	b.gives(6, api.GlkStrTell, 2)
	b.lays(2, "", true)
	b.lays(2, "x", false)
	b.pushes([]uint32{0, 6}, 0, api.GlkStrClose, 2, top)
	b.has("abc", "abcdef")
}

// P16.2: streams on memory

func TestStreamsOnMemory(t *testing.T) {
	b := begin(t, 0, 0)
	b.put(0x300, "abcdef")
	b.gives(1, api.GlkStrMemory, 0x301, 3, api.StreamBoth, 9)
	b.gives(9, api.GlkStrRock, 1)
	b.gives('b', api.GlkGetStr, 1)
	b.does(api.GlkPutStr, 1, 'X')
	b.gives(2, api.GlkStrTell, 1)
	// Till it is closed, nothing is laid.
	b.holds(0x300, "abcdef")
	b.gives('d', api.GlkGetStr, 1)
	b.gives(top, api.GlkGetStr, 1)
	b.pushes([]uint32{2, 1}, 0, api.GlkStrClose, 1, top)
	b.holds(0x300, "abXdef")
	b.does(api.GlkStrClose, 1, top)
	b.pushed()
}

func TestWideStreamsOnMemory(t *testing.T) {
	b := begin(t, 0, 0)
	b.put(0x300, "\x00\x00\x00a\x00\x00\x01\x00\xff\xff\xff\xffx")
	b.gives(1, api.GlkStrMemWide, 0x300, 3, api.StreamBoth, 9)
	b.gives('a', api.GlkGetStr, 1)
	b.gives(63, api.GlkGetStr, 1)
	b.gives(63, api.GlkGetStr, 1)
	b.does(api.GlkStrSeek, 1, 1, 0)
	b.gives(256, api.GlkGetStrWide, 1)
	b.gives(top, api.GlkGetStrWide, 1) // the character
	b.gives(top, api.GlkGetStrWide, 1) // there is none
	b.does(api.GlkStrSeek, 1, 1, 0)
	b.does(api.GlkPutStrWide, 1, 0x12345678)
	b.does(api.GlkPutStr, 1, 0x1234)
	b.does(api.GlkPutStrWide, 1, 5) // it is lost
	b.pushes([]uint32{5, 3}, 0, api.GlkStrClose, 1, top)
	b.holds(0x300, "\x00\x00\x00a\x12\x34\x56\x78\x00\x00\x00\x34x")
}

func TestHowManyCharactersAMemoryStreamHas(t *testing.T) {
	for _, sel := range []uint32{api.GlkStrMemory, api.GlkStrMemWide} {
		width := uint32(1)
		if sel == api.GlkStrMemWide {
			width = 4
		}
		for _, n := range []uint32{0, 1, 2, 4095, 4096} {
			b := begin(t, 0, 0)
			b.put(0x500, strings.Repeat("\x00\x00\x00x", 5000))
			b.gives(1, sel, 0x500, n, api.StreamBoth, 0)
			b.does(api.GlkStrSeek, 1, 0, api.FromEnd)
			b.gives(n, api.GlkStrTell, 1)
			if n > 0 {
				b.does(api.GlkStrSeek, 1, top, api.FromEnd)
				b.does(api.GlkPutStr, 1, 'z')
			}
			b.does(api.GlkPutStr, 1, 'y')
			b.does(api.GlkStrClose, 1, 0)
			want := strings.Repeat("\x00\x00\x00x", 5000)
			if n > 0 {
				want = want[:n*width-1] + "z" + want[n*width:]
			}
			b.holds(0x500, want)
		}
		b := begin(t, 0, 0)
		for _, n := range []uint32{4097, 1 << 16, 1 << 30, 1 << 31, top} {
			for _, addr := range []uint32{0, 0x500, 0x6000, top} {
				for _, mode := range []uint32{1, 2, 3, 5, 0} {
					b.does(sel, addr, n, mode, 0)
				}
			}
		}
		b.gives(1, sel, 0x500, 1, api.StreamRead, 0)
	}
}

func TestMemoryStreamsAtNoPlace(t *testing.T) {
	for _, addr := range []uint32{api.NoAddr, api.StackAddr} {
		for _, sel := range []uint32{api.GlkStrMemory, api.GlkStrMemWide} {
			b := begin(t, 0, 0)
			b.put(0, "abcdef")
			b.put(top-6, "ghijkl")
			for i, n := range []uint32{0, 1, 5, 4096} {
				id := uint32(i) + 1
				b.gives(id, sel, addr, n, api.StreamBoth, 0)
				b.gives(top, api.GlkGetStr, id)
				b.does(api.GlkPutStr, id, 'x')
				b.does(api.GlkStrTell, id)
				b.pushes([]uint32{0, 1}, 0, api.GlkStrClose, id, top)
				b.holds(0, "abcdef")
				b.holds(top-6, "ghijk")
			}
			for _, mode := range []uint32{0, 4, 5, 6, top} {
				b.does(sel, addr, 3, mode, 0)
			}
		}
	}
}

func TestMemoryStreamsThatAreRefused(t *testing.T) {
	b := begin(t, 0, 0)
	for _, mode := range []uint32{0, 4, 5, 6, 256 + 1, 1<<31 + 1, top} {
		b.does(api.GlkStrMemory, 0x300, 3, mode, 0)
		b.does(api.GlkStrMemWide, 0x300, 3, mode, 0)
	}
	// What is not there.
	b.refuses(api.FatalRead, api.GlkStrMemory, 0x6000, 1, api.StreamRead, 0)
	b.refuses(api.FatalRead, api.GlkStrMemory, 0x5ffe, 3, api.StreamRead, 0)
	b.refuses(api.FatalRead, api.GlkStrMemWide, 0x5ffd, 1, api.StreamRead, 0)
	b.refusing(2, api.FatalHeap)
	b.refuses(api.FatalHeap, api.GlkStrMemory, 0x300, 3, api.StreamRead, 0)
	b.willing()
	b.gives(1, api.GlkStrMemory, 0x5ffe, 2, api.StreamRead, 0)
	b.gives(2, api.GlkStrMemWide, 0x5ffc, 1, api.StreamRead, 0)
	// Of none nothing is looked at.
	b.gives(3, api.GlkStrMemory, 0x6000, 0, api.StreamRead, 0)
	b.objects(nil, []uint32{1, 2, 3})
}

func TestMemoryStreamsGoOnModulo2To32(t *testing.T) {
	b := begin(t, 0, 0)
	b.put(top-2, "abcdef")
	b.gives(1, api.GlkStrMemory, top-2, 6, api.StreamBoth, 0)
	for _, c := range chars("abcde") {
		b.gives(c, api.GlkGetStr, 1)
	}
	b.does(api.GlkPutStr, 1, 'F')
	b.does(api.GlkStrClose, 1, 0)
	b.holds(top-2, "abcdeF")
	b.put(top-4, "\x00\x00\x00a\x00\x00\x00b\x00\x00\x00c")
	b.gives(2, api.GlkStrMemWide, top-4, 3, api.StreamBoth, 0)
	b.gives('a', api.GlkGetStr, 2)
	b.does(api.GlkPutStr, 2, 'B')
	b.gives('c', api.GlkGetStr, 2)
	b.does(api.GlkStrClose, 2, 0)
	b.holds(top-4, "\x00\x00\x00a\x00\x00\x00B\x00\x00\x00c")
}

func TestWhatIsLaidBehindStrClose(t *testing.T) {
	for _, sel := range []uint32{api.GlkStrMemory, api.GlkStrMemWide} {
		open := func(mode uint32) *both {
			b := begin(t, 0, 0)
			b.put(0x300, "\x00\x00\x00a\x00\x00\x00b\x00\x00\x00c")
			b.gives(1, sel, 0x300, 12/uint32(1+3*(sel>>8)), mode, 0)
			return b
		}
		// One that only read, and one that did neither, leave what has come there since.
		for _, mode := range []uint32{api.StreamWrite, api.StreamRead, api.StreamBoth} {
			for _, reads := range []bool{false, true} {
				b := open(mode)
				if reads {
					b.call(api.GlkGetStr, 1)
				}
				if mode == api.StreamRead {
					b.does(api.GlkPutStr, 1, 'n')
				}
				b.put(0x300, "something else")
				b.does(api.GlkStrClose, 1, 0)
				b.holds(0x300, "something else")
			}
		}
		// One that wrote lays all its characters, those too that it did not write.
		for _, mode := range []uint32{api.StreamWrite, api.StreamBoth} {
			b := open(mode)
			b.does(api.GlkStrSeek, 1, top, api.FromEnd)
			b.does(api.GlkPutStr, 1, 'x')
			b.put(0x300, "something else")
			b.does(api.GlkStrClose, 1, 0)
			b.holds(0x300, "\x00\x00\x00a\x00\x00\x00b\x00\x00\x00xse")
			// Even if what it wrote was lost.
			b = open(mode)
			b.does(api.GlkStrSeek, 1, 0, api.FromEnd)
			b.does(api.GlkPutStr, 1, 'x')
			b.put(0x300, "something else")
			b.pushes([]uint32{0, 1}, 0, api.GlkStrClose, 1, top)
			b.holds(0x300, "\x00\x00\x00a\x00\x00\x00b\x00\x00\x00cse")
		}
	}
}

func TestStrCloseOfASpaceThatRefuses(t *testing.T) {
	b := begin(t, 0, 0)
	b.put(0x3fc, "abcdefgh")
	open := func(id uint32) {
		t.Helper()
		b.gives(id, api.GlkStrMemory, 0x3fc, 8, api.StreamBoth, 0)
		b.does(api.GlkStrSet, id)
	}
	open(1)
	b.lays(1, "01234567", true)
	b.refuses(api.FatalWrite, api.GlkStrClose, 1, top)
	// What was done ahead stays: the stream is gone, half of it is laid, nothing is handed.
	b.holds(0x3fc, "0123efgh")
	b.pushed()
	b.does(api.GlkStrCurrent)
	b.does(api.GlkStrClose, 1, top)
	b.pushed()
	// One that did not write lays nothing where nothing may be written.
	open(2)
	b.gives('0', api.GlkGetStr, 2)
	b.pushes([]uint32{1, 0}, 0, api.GlkStrClose, 2, top)
	// In the middle of the numbers.
	b.gives(3, api.GlkStrMemory, 0x300, 2, api.StreamWrite, 0)
	b.does(api.GlkPutStr, 3, 'x')
	b.refusing(3, api.FatalOver)
	b.refuses(api.FatalOver, api.GlkStrClose, 3, top)
	b.pushed(0)
	b.willing()
	b.holds(0x300, "x\x00")
	b.objects(nil, nil)
	// All characters ahead of the numbers.
	b.gives(4, api.GlkStrMemory, 0x300, 6, api.StreamWrite, 0)
	b.lays(4, "abcdef", true)
	b.does(api.GlkStrClose, 4, 0x304)
	b.holds(0x300, "abcd\x00\x00\x00\x00\x00\x00\x00\x06")
	b.gives(5, api.GlkStrMemWide, 0x3f8, 3, api.StreamWrite, 0)
	b.lays(5, "abc", true)
	b.refuses(api.FatalWrite, api.GlkStrClose, 5, 0)
	b.holds(0x3f8, "\x00\x00\x00a\x00\x00\x00befgh")
}

func TestStrCloseOfOthers(t *testing.T) {
	b := tree(t)
	b.reference("abc", 11)
	b.does(api.GlkWinSet, 1)
	b.write("x")
	// Windows' streams are closed with their windows alone.
	for _, o := range []uint32{0, 1, 2, 4, 6, 8, 10, 11, 12, top} {
		b.pushes(nil, 0, api.GlkStrClose, o, top)
	}
	b.gives(2, api.GlkStrCurrent)
	b.objects([]uint32{1, 3, 5, 7, 9}, []uint32{2, 4, 6, 8, 10})
	b.pushes([]uint32{0, 1}, 0, api.GlkWinClose, 1, top)
}

// P16.2: places

func TestStrSeekAndStrTell(t *testing.T) {
	b := begin(t, 10, 10)
	b.put(0x300, "0123456789")
	b.gives(1, api.GlkStrMemory, 0x300, 10, api.StreamBoth, 0)
	moved := func(place, from, want uint32) {
		t.Helper()
		b.does(api.GlkStrSeek, 1, place, from)
		b.gives(want, api.GlkStrTell, 1)
	}
	const minus = 1 << 32
	moved(3, 0, 3)
	moved(2, 1, 5)
	moved(minus-4, 1, 1)
	moved(minus-4, 1, 0)
	moved(minus-1, 2, 9)
	moved(minus-10, 2, 0)
	moved(0, 2, 10)
	moved(minus-1, 0, 0)
	moved(1<<31-1, 0, 10)
	moved(1<<31, 1, 0) // the least integer
	moved(1<<31-1, 1, 10)
	moved(1<<31, 2, 0)
	moved(4, 0, 4)
	for _, from := range []uint32{3, 4, 256, 1 << 31, top} {
		moved(7, from, 4)
	}
	b.gives('4', api.GlkGetStr, 1)
	b.gives(5, api.GlkStrTell, 1)
	// A window's: how many came, and no place to go to.
	b.gives(2, api.GlkWinOpen, 0, 0, 0, api.WinText, 0)
	b.does(api.GlkPutStr, 3, 'x')
	b.does(api.GlkPutStr, 3, 'y')
	for from := range uint32(4) {
		b.does(api.GlkStrSeek, 3, 1, from)
		b.gives(2, api.GlkStrTell, 3)
	}
	for _, o := range []uint32{0, 2, 4, 5, top} {
		b.does(api.GlkStrTell, o)
		b.does(api.GlkStrSeek, o, 0, 0)
	}
	b.gives(5, api.GlkStrTell, 1)
}

// P16.2: characters that come to streams

func TestPutOfEachWidth(t *testing.T) {
	b := begin(t, 10, 10)
	b.gives(1, api.GlkWinOpen, 0, 0, 0, api.WinText, 0)
	b.gives(3, api.GlkStrMemory, 0x300, 20, api.StreamWrite, 0)
	b.gives(4, api.GlkStrMemWide, 0x340, 20, api.StreamWrite, 0)
	put := []uint32{'a', 254, 255, 256, 257, 1<<16 + 'b', top}
	for _, str := range []uint32{2, 3, 4} {
		b.does(api.GlkStrSet, str)
		for _, c := range put {
			b.does(api.GlkPut, c)
			b.does(api.GlkPutStr, str, c)
			b.does(api.GlkPutWide, c)
			b.does(api.GlkPutStrWide, str, c)
		}
	}
	var wide, narrow, low []uint32
	for _, c := range put {
		wide = append(wide, c%256, c%256, c, c)
		for _, x := range wide[len(wide)-4:] {
			if x > 255 {
				x = '?'
			}
			narrow = append(narrow, x)
		}
	}
	low = narrow[:20]
	if is := b.g.Text(1); !slices.Equal(is, wide) {
		t.Errorf("%v, not %v", is, wide)
	}
	b.pushes([]uint32{0, 28}, 0, api.GlkStrClose, 3, top)
	for i, want := range low {
		if is := uint32(b.s.low[0x300+i]); is != want {
			t.Errorf("%d at %d, not %d", is, i, want)
		}
	}
	b.pushes([]uint32{0, 28}, 0, api.GlkStrClose, 4, top)
	for i, want := range wide[:20] {
		if is := b.s.word(0x340 + 4*uint32(i)); is != want {
			t.Errorf("%d at %d, not %d", is, i, want)
		}
	}
	// What is no stream, or writes nothing, gets none.
	b.gives(5, api.GlkStrMemory, 0x300, 20, api.StreamRead, 0)
	for _, o := range []uint32{0, 1, 3, 5, 6, top} {
		b.does(api.GlkPutStr, o, 'x')
		b.does(api.GlkPutStrWide, o, 'x')
	}
	b.pushes([]uint32{0, 0}, 0, api.GlkStrClose, 5, top)
	b.does(api.GlkStrSet, 0)
	b.does(api.GlkPut, 'x')
	b.does(api.GlkPutWide, 'x')
}

func TestPutBuffer(t *testing.T) {
	b := begin(t, 10, 10)
	b.put(0x300, "some\x00text\xff")
	b.put(top-1, "abc")
	b.does(api.GlkPutBuffer, 0x300, 5) // no stream is current
	b.gives(1, api.GlkWinOpen, 0, 0, 0, api.WinText, 0)
	b.does(api.GlkWinSet, 1)
	b.does(api.GlkPutBuffer, 0x300, 0)
	b.does(api.GlkPutBuffer, 0x6000, 0)
	b.told()
	b.does(api.GlkPutBuffer, 0x300, 10)
	b.reads(1, "some\x00text\xff")
	// NoAddr and StackAddr are addresses like others here.
	b.does(api.GlkPutBuffer, 0, 1)
	b.does(api.GlkPutBuffer, top, 2)
	b.does(api.GlkPutBuffer, top-1, 3)
	b.reads(1, "some\x00text\xffcbcabc")
	b.gives(16, api.GlkStrTell, 2)
}

func TestPutBufferOfASpaceThatRefuses(t *testing.T) {
	b := begin(t, 10, 10)
	b.gives(1, api.GlkWinOpen, 0, 0, 0, api.WinText, 0)
	b.put(0x5ffd, "end")
	// Where no stream is current, they are read, too.
	b.refuses(api.FatalRead, api.GlkPutBuffer, 0x5ffd, 4)
	b.does(api.GlkWinSet, 1)
	b.refuses(api.FatalRead, api.GlkPutBuffer, 0x5ffd, 4)
	b.refuses(api.FatalRead, api.GlkPutBuffer, 0x5ffe, top)
	b.refuses(api.FatalRead, api.GlkPutBuffer, 0x6000, 1)
	b.reads(1, "endnd")
	b.refusing(2, api.Errno(999))
	b.refuses(api.Errno(999), api.GlkPutBuffer, 0x5ffd, 3)
	b.willing()
	b.reads(1, "endnden")
	b.gives(7, api.GlkStrTell, 2)
	b.gives(3, api.GlkStrMemory, 0x300, 2, api.StreamWrite, 0)
	b.does(api.GlkStrSet, 3)
	b.refuses(api.FatalRead, api.GlkPutBuffer, 0x5ffd, 4)
	b.pushes([]uint32{0, 3}, 0, api.GlkStrClose, 3, top)
	b.holds(0x300, "en\x00")
}

// P16.2: characters that are read

func TestGetStr(t *testing.T) {
	b := begin(t, 10, 10)
	b.setFile("abc", "a\x00\n\xff")
	b.reference("abc", 1)
	b.gives(2, api.GlkStrFile, 1, api.StreamRead, 0)
	for _, sel := range []uint32{api.GlkGetStr, api.GlkGetStrWide} {
		b.does(api.GlkStrSeek, 2, 0, 0)
		for _, want := range []uint32{'a', 0, 10, 255, top, top} {
			b.gives(want, sel, 2)
		}
		// One that does not read, a window's, and what is no stream.
		b.gives(3+6*(sel>>8), api.GlkStrMemory, 0x300, 3, api.StreamWrite, 0)
		b.gives(4+6*(sel>>8), api.GlkWinOpen, 0, 0, 0, api.WinText, 0)
		for _, o := range []uint32{0, 1, 3, 4, 5, 6, 9, 10, 11, 12, top} {
			b.gives(top, sel, o)
		}
		b.does(api.GlkWinClose, 4+6*(sel>>8), 0)
		for b.m.last < 8 {
			b.reference("abc", b.m.last+1)
		}
	}
}

func TestLineStr(t *testing.T) {
	b := begin(t, 10, 10)
	b.setFile("abc", "one\ntwo\n\nlast")
	b.reference("abc", 1)
	b.gives(2, api.GlkStrFile, 1, api.StreamRead, 0)
	line := func(n, want uint32, text string) {
		t.Helper()
		b.put(0x300, "################")
		b.gives(want, api.GlkLineStr, 2, 0x300, n)
		b.holds(0x300, text+"#")
	}
	line(0, 0, "")
	line(1, 0, "\x00")
	line(2, 1, "o\x00")
	line(3, 2, "ne\x00")
	line(4, 1, "\n\x00")
	line(5, 4, "two\n\x00") // a 10 that is the last one that there is room for
	line(10, 1, "\n\x00")
	line(1, 0, "\x00")
	line(10, 4, "last\x00")
	line(10, 0, "\x00")
	b.does(api.GlkStrSeek, 2, 0, 0)
	line(top, 4, "one\n\x00")
	line(4, 3, "two\x00")
	b.pushes([]uint32{20, 0}, 0, api.GlkStrClose, 2, top)
}

func TestLineStrOfWideCharacters(t *testing.T) {
	b := begin(t, 10, 10)
	for i, c := range []uint32{'a', 255, 256, 10 + 256, top, 10, 'b'} {
		b.put(0x300+4*uint32(i), string([]byte{byte(c >> 24), byte(c >> 16), byte(c >> 8), byte(c)}))
	}
	b.gives(1, api.GlkStrMemWide, 0x300, 7, api.StreamRead, 0)
	b.gives(6, api.GlkLineStr, 1, 0x340, 20)
	b.holds(0x340, "a\xff???\n\x00\x00")
	b.gives(1, api.GlkLineStr, 1, 0x340, 20)
	b.holds(0x340, "b\x00")
}

func TestLineStrThatDoesNothing(t *testing.T) {
	b := begin(t, 10, 10)
	b.put(0x340, "text")
	b.put(0x300, "####")
	b.gives(1, api.GlkStrMemory, 0x340, 4, api.StreamRead, 0)
	b.gives(2, api.GlkStrMemory, 0x340, 4, api.StreamWrite, 0)
	b.gives(3, api.GlkWinOpen, 0, 0, 0, api.WinText, 0)
	b.does(api.GlkLineStr, 1, 0x300, 0)
	b.does(api.GlkLineStr, 1, api.NoAddr, 5)
	b.does(api.GlkLineStr, 1, api.StackAddr, 5)
	for _, o := range []uint32{0, 2, 3, 4, 5, top} {
		b.does(api.GlkLineStr, o, 0x300, 5)
		b.does(api.GlkLineStr, o, 0x6000, 5)
	}
	b.holds(0x300, "####")
	b.pushed()
	b.does(api.GlkStrTell, 1) // nothing was read
	// Where the Space refuses, it has been read.
	b.refuses(api.FatalWrite, api.GlkLineStr, 1, 0x3fe, 4)
	b.holds(0x3fe, "te\x00")
	b.gives(3, api.GlkStrTell, 1)
	b.refuses(api.FatalWrite, api.GlkLineStr, 1, 0x3ff, 4) // the 0 behind it
	b.holds(0x3ff, "t\x00")
	b.gives(4, api.GlkStrTell, 1)
	b.does(api.GlkStrSeek, 1, 0, 0)
	b.gives(4, api.GlkLineStr, 1, top-1, 5)
	b.holds(top-1, "text\x00")
}

// P16.3: Lay and Rest

func TestLayAndRest(t *testing.T) {
	for _, over := range []bool{false, true} {
		b := tree(t)
		b.reference("abc", 11)
		b.gives(12, api.GlkStrFile, 11, api.StreamBoth, 0)
		b.reference("wide", 13)
		b.gives(14, api.GlkStrFileWide, 13, api.StreamBoth, 0)
		b.gives(15, api.GlkStrMemory, 0x300, 4, api.StreamBoth, 0)
		b.gives(16, api.GlkStrMemWide, 0x340, 4, api.StreamBoth, 0)
		b.reference("new", 17)
		b.gives(18, api.GlkStrFile, 17, api.StreamWrite, 0)
		b.setFile("old", "text")
		b.reference("old", 19)
		b.gives(20, api.GlkStrFile, 19, api.StreamRead, 0)
		b.gives('t', api.GlkGetStr, 20)
		b.gives(21, api.GlkStrMemWide, 0x380, 3, api.StreamRead, 0)
		if over {
			b.does(api.GlkExit)
		}
		for _, str := range []uint32{12, 14, 15, 16, 18} {
			b.lays(str, "", true)
			b.lays(str, "a\x00\xff\n", true)
			b.lays(str, "", true)
		}
		b.lays(15, "lost", true)
		b.has("abc", "a\x00\xff\n")
		b.has("wide", "\x00\x00\x00a\x00\x00\x00\x00\x00\x00\x00\xff\x00\x00\x00\n")
		b.has("new", "a\x00\xff\n")
		// At its size there is nothing; from its place on there is the rest, once.
		for _, str := range []uint32{12, 14, 15, 16} {
			b.rests(str, "")
		}
		b.rests(20, "ext")
		b.rests(20, "")
		b.rests(21, "\x00\x00\x00")
		b.rests(21, "")
		// What does not write, does not read, is a window's, or is no stream.
		for _, str := range []uint32{20, 21, 0, 1, 2, 3, 4, 6, 8, 10, 11, 13, 22, top} {
			b.lays(str, "x", false)
			b.lays(str, "", false)
		}
		for _, str := range []uint32{18, 0, 1, 2, 3, 4, 6, 8, 10, 11, 13, 22, top} {
			b.restsNot(str)
		}
		b.told()
	}
}

func TestRestOfWideCharacters(t *testing.T) {
	b := begin(t, 10, 10)
	b.gives(1, api.GlkStrMemWide, 0x300, 6, api.StreamBoth, 0)
	for _, c := range []uint32{'a', 255, 256, top, 10 + 256, 10} {
		b.does(api.GlkPutStrWide, 1, c)
	}
	b.does(api.GlkStrSeek, 1, 1, 0)
	b.rests(1, "\xff???\n")
	b.gives(6, api.GlkStrTell, 1)
	b.does(api.GlkStrSeek, 1, 0, 0)
	b.rests(1, "a\xff???\n")
	// They were read, and what was laid was written.
	b.does(api.GlkStrSeek, 1, 2, 0)
	b.lays(1, "xyz", true)
	b.gives(5, api.GlkStrTell, 1)
	b.pushes([]uint32{11, 9}, 0, api.GlkStrClose, 1, top)
	if is := b.s.word(0x300 + 16); is != 'z' {
		t.Errorf("%d", is)
	}
}

func TestLayOfTheCurrentStream(t *testing.T) {
	b := begin(t, 10, 10)
	b.reference("abc", 1)
	b.gives(2, api.GlkStrFile, 1, api.StreamWrite, 0)
	b.does(api.GlkStrSet, 2)
	b.write("ab")
	b.lays(2, "cd", true)
	b.write("ef")
	b.does(api.GlkExit)
	b.lays(2, "gh", true)
	b.wrote('n')
	b.has("abc", "abcdefgh")
}
