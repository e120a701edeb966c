package memory

import (
	"bytes"
	"math/rand"
	"slices"
	"testing"

	"grotto/api"
	"grotto/header"
)

// P9.1

func TestNew(t *testing.T) {
	for _, c := range []struct{ ram, ext, end uint32 }{
		{256, 256, 256}, {256, 256, 512}, {256, 512, 512}, {512, 512, 512}, {512, 768, 1280},
		{256, 256, 1 << 20}, {256, 1 << 20, 1 << 20}, {1 << 20, 1 << 20, 1 << 20}, {4096, 65536, 1<<20 - 256},
	} {
		game, head := gameOf(t, c.ram, c.ext, c.end)
		m, e, at := New(game)
		if m == nil || e != api.OK || at != 36 {
			t.Fatalf("New of %v = %d at %d", head, e, at)
		}
		if m.Header() != head {
			t.Errorf("Header() = %v, not %v", m.Header(), head)
		}
		if m.Size() != c.end {
			t.Errorf("Size() = %d, not %d", m.Size(), c.end)
		}
		if !bytes.Equal(m.Game(), game) {
			t.Errorf("Game() is another one than that of %v", head)
		}
		expectMemory(t, "new", m, append(bytes.Clone(game), make([]byte, c.end-c.ext)...), 0)
	}
}

func TestNewRefused(t *testing.T) {
	game, _ := gameOf(t, 512, 768, 1024)
	turned := func(place int) []byte {
		b := bytes.Clone(game)
		b[place] ^= 1
		return b
	}
	for _, c := range []struct {
		what string
		game []byte
		e    api.Errno
		at   int
	}{
		{"nothing", nil, api.ErrShort, 0},
		{"no bytes", []byte{}, api.ErrShort, 0},
		{"too long", append(bytes.Clone(game), make([]byte, 1<<20-767)...), api.ErrLong, 0},
		{"other letters", turned(3), api.ErrMagic, 0},
		{"35 bytes", game[:35], api.ErrShort, 35},
		{"the version", turned(4), api.ErrVersion, 4},
		{"RamStart", turned(11), api.ErrMap, 8},
		{"ExtStart", turned(15), api.ErrMap, 12},
		{"a byte less", game[:767], api.ErrMap, 12},
		{"a byte more", append(bytes.Clone(game), 0), api.ErrMap, 12},
		{"EndMem", turned(19), api.ErrMap, 16},
		{"StackSize", turned(23), api.ErrStack, 20},
		{"Start", turned(24), api.ErrMap, 24},
		{"Table", turned(28), api.ErrMap, 28},
		{"Sum", turned(35), api.ErrSum, 32},
		{"the last byte", turned(767), api.ErrSum, 32},
	} {
		m, e, at := New(c.game)
		if m != nil || e != c.e || at != c.at {
			t.Errorf("%s: New = %d at %d, nil %t; not %d at %d", c.what, e, at, m == nil, c.e, c.at)
		}
		if _, f, place := header.Parse(c.game); f != e || place != at {
			t.Errorf("%s: New = %d at %d; Parse %d at %d", c.what, e, at, f, place)
		}
	}
}

func TestHeaderAndGameStay(t *testing.T) {
	m := small(t)
	head, game := m.Header(), m.Game()
	colour(t, m, 0xaa)
	m.Resize(2048)
	m.Malloc(5)
	m.Load(coloured(7, 1024), 1024, block(1030, 3))
	m.Protect(0, 2000)
	m.Restart()
	if m.Header() != head || !bytes.Equal(m.Game(), game) {
		t.Error("header or game have changed")
	}
}

func TestExample(t *testing.T) {
	m := made(t, 256, 512, 768)
	expectRead(t, m, 0, 4, 0x476c756c, api.OK)
	expectWrite(t, m, 255, 1, 7, api.FatalWrite)
	expectWrite(t, m, 767, 1, 7, api.OK)
	expectWrite(t, m, 767, 2, 7, api.FatalWrite)
	expectResize(t, m, 1024, true)
	expectRead(t, m, 1020, 4, 0, api.OK)
	expectMalloc(t, m, 5, 1024, 1280)
	expectResize(t, m, 768, false)
	expectFree(t, m, 1024, api.OK, 1024)
}

// P9.2

// expectRead: Read answers that, and nothing changes.
func expectRead(t *testing.T, m *Memory, addr uint32, n int, x uint32, e api.Errno) {
	t.Helper()
	was := m.Copy()
	if y, f := m.Read(addr, n); y != x || f != e {
		t.Errorf("Read(%d, %d) = %#x, %d; not %#x, %d", addr, n, y, f, x, e)
	}
	expectSame(t, "behind a Read", m, was)
}

// expectWrite: Write answers e, and changes just those bytes, if that is OK.
func expectWrite(t *testing.T, m *Memory, addr uint32, n int, x uint32, e api.Errno) {
	t.Helper()
	b := m.Bytes()
	start, l := m.Heap()
	if f := m.Write(addr, n, x); f != e {
		t.Errorf("Write(%d, %d, %#x) = %d; not %d", addr, n, x, f, e)
	}
	for i := 0; e == api.OK && i < n; i++ {
		b[int(addr)+i] = byte(x >> (8 * (n - 1 - i)))
	}
	expectMemory(t, "behind a Write", m, b, start, l...)
}

func TestRead(t *testing.T) {
	m := small(t)
	for i, c := range []byte{0x01, 0x82, 0x03, 0x84, 0xff} {
		expectWrite(t, m, 600+uint32(i), 1, uint32(c), api.OK)
	}
	for _, c := range []struct {
		addr uint32
		n    int
		x    uint32
	}{
		{600, 1, 0x01}, {601, 1, 0x82}, {604, 1, 0xff},
		{600, 2, 0x0182}, {601, 2, 0x8203}, {603, 2, 0x84ff},
		{600, 4, 0x01820384}, {601, 4, 0x820384ff},
		{0, 1, 'G'}, {0, 2, 0x476c}, {0, 4, 0x476c756c}, {8, 4, 512}, {16, 4, 1024}, {1, 2, 0x6c75},
	} {
		expectRead(t, m, c.addr, c.n, c.x, api.OK)
	}
}

func TestReadJustAtTheEnd(t *testing.T) {
	m := small(t)
	expectWrite(t, m, 1020, 4, 0xa1b2c3d4, api.OK)
	expectRead(t, m, 1023, 1, 0xd4, api.OK)
	expectRead(t, m, 1022, 2, 0xc3d4, api.OK)
	expectRead(t, m, 1020, 4, 0xa1b2c3d4, api.OK)
	for _, c := range []struct {
		addr uint32
		n    int
	}{{1024, 1}, {1023, 2}, {1024, 2}, {1021, 4}, {1022, 4}, {1023, 4}, {1024, 4}, {1025, 1}, {2047, 1}, {1 << 20, 1}, {1 << 31, 4}, {top, 1}, {top, 2}, {top - 1, 2}, {top, 4}, {top - 1, 4}, {top - 2, 4}, {top - 3, 4}} {
		expectRead(t, m, c.addr, c.n, 0, api.FatalRead)
	}
}

func TestWidths(t *testing.T) {
	m := small(t)
	for _, n := range []int{0, 3, 5, 8, -1, -2, -4, 1 << 31, 1<<32 + 1, 1<<32 + 4, 1<<63 - 1, -1 << 63} {
		// ErrArg comes ahead of what the place would tell.
		for _, addr := range []uint32{0, 511, 512, 600, 1023, 1024, top} {
			expectRead(t, m, addr, n, 0, api.ErrArg)
			expectWrite(t, m, addr, n, 0x01020304, api.ErrArg)
		}
	}
}

func TestWrite(t *testing.T) {
	m := small(t)
	expectWrite(t, m, 600, 4, 0x01020304, api.OK)
	expectWrite(t, m, 601, 2, 0xaaaab0c0, api.OK)
	expectRead(t, m, 600, 4, 0x01b0c004, api.OK)
	expectWrite(t, m, 603, 1, 0xffffff80, api.OK)
	expectRead(t, m, 600, 4, 0x01b0c080, api.OK)
	expectWrite(t, m, 600, 4, 0, api.OK)
	expectRead(t, m, 600, 4, 0, api.OK)
}

func TestWriteBounds(t *testing.T) {
	m := small(t)
	for _, n := range []int{1, 2, 4} {
		for _, addr := range []uint32{512, 513, 1024 - uint32(n)} {
			expectWrite(t, m, addr, n, 0xf1f2f3f4, api.OK)
		}
		// Below RamStart, though some of the bytes lie above it.
		for _, addr := range []uint32{0, 36, 100, 508, 509, 510, 511} {
			expectWrite(t, m, addr, n, 0xf1f2f3f4, api.FatalWrite)
		}
		for _, addr := range []uint32{1025 - uint32(n), 1024, 1025, 1 << 20, 1 << 31, top - 3, top - 2, top - 1, top} {
			expectWrite(t, m, addr, n, 0xf1f2f3f4, api.FatalWrite)
		}
	}
	// Nothing may be written where all is the game's own.
	m = made(t, 512, 512, 512)
	for addr := range uint32(520) {
		expectWrite(t, m, addr, 1, 0xee, api.FatalWrite)
	}
	expectResize(t, m, 768, true)
	expectWrite(t, m, 511, 1, 0xee, api.FatalWrite)
	expectWrite(t, m, 512, 1, 0xee, api.OK)
}

func TestBoundsMove(t *testing.T) {
	m := small(t)
	expectResize(t, m, 1280, true)
	expectWrite(t, m, 1276, 4, 0x11223344, api.OK)
	expectRead(t, m, 1276, 4, 0x11223344, api.OK)
	expectRead(t, m, 1277, 4, 0, api.FatalRead)
	expectResize(t, m, 1024, true)
	expectRead(t, m, 1024, 1, 0, api.FatalRead)
	expectWrite(t, m, 1024, 1, 1, api.FatalWrite)
}

// P9.3

// expectFill: Fill answers e, and changes just those bytes, if that is OK.
func expectFill(t *testing.T, m *Memory, addr, n uint32, e api.Errno) {
	t.Helper()
	b := m.Bytes()
	start, l := m.Heap()
	if f := m.Fill(addr, n); f != e {
		t.Errorf("Fill(%d, %d) = %d; not %d", addr, n, f, e)
	}
	if e == api.OK && n > 0 {
		b = splice(b, int(addr), make([]byte, n))
	}
	expectMemory(t, "behind a Fill", m, b, start, l...)
}

// expectMove: Move answers e, and changes just those bytes, if that is OK.
func expectMove(t *testing.T, m *Memory, n, from, to uint32, e api.Errno) {
	t.Helper()
	b := m.Bytes()
	start, l := m.Heap()
	if f := m.Move(n, from, to); f != e {
		t.Errorf("Move(%d, %d, %d) = %d; not %d", n, from, to, f, e)
	}
	if e == api.OK && n > 0 {
		b = splice(b, int(to), bytes.Clone(b[from:from+n]))
	}
	expectMemory(t, "behind a Move", m, b, start, l...)
}

func TestFill(t *testing.T) {
	for _, c := range []struct{ addr, n uint32 }{{512, 1}, {512, 512}, {513, 511}, {512, 511}, {600, 7}, {1023, 1}, {1000, 24}, {767, 2}} {
		m := small(t)
		colour(t, m, 0x5a)
		expectFill(t, m, c.addr, c.n, api.OK)
	}
	m := small(t)
	colour(t, m, 0x5a)
	for _, c := range []struct{ addr, n uint32 }{
		{0, 1}, {0, 1024}, {511, 1}, {511, 2}, {500, 12}, {500, 13}, {256, 600},
		{1023, 2}, {1024, 1}, {512, 513}, {600, 425}, {1025, 1}, {1 << 31, 1}, {top, 1}, {top, 2},
		{512, top}, {512, top - 511}, {512, top - 510}, {600, top - 599}, {600, top - 598}, {600, top - 87}, {1023, top}, {1024, top}, {top, top}, {1 << 31, 1 << 31}, {1<<31 + 600, 1 << 31},
	} {
		expectFill(t, m, c.addr, c.n, api.FatalWrite)
	}
}

func TestNoBytes(t *testing.T) {
	m := small(t)
	colour(t, m, 0x5a)
	for _, addr := range []uint32{0, 511, 512, 1023, 1024, 1025, 1 << 20, top} {
		expectFill(t, m, addr, 0, api.OK)
		for _, to := range []uint32{0, 511, 512, 1023, 1024, 1025, 1 << 20, top} {
			expectMove(t, m, 0, addr, to, api.OK)
		}
	}
}

// numbered: a small memory whose bytes that may be written are all unlike those beside them.
func numbered(t *testing.T) *Memory {
	m := small(t)
	for addr := uint32(512); addr < 1024; addr++ {
		m.Write(addr, 1, addr*7+addr/256)
	}
	return m
}

func TestMove(t *testing.T) {
	for _, c := range []struct{ n, from, to uint32 }{
		{1, 600, 700}, {1, 0, 512}, {1, 511, 1023}, {1, 1023, 512}, {4, 600, 700}, {100, 700, 600},
		{512, 0, 512}, {512, 512, 512}, {500, 100, 524}, {36, 0, 988},
		// Both places share bytes, either way round.
		{4, 600, 602}, {4, 602, 600}, {200, 600, 601}, {200, 601, 600}, {511, 512, 513}, {511, 513, 512}, {300, 512, 700}, {300, 700, 512}, {10, 600, 609}, {10, 609, 600}, {9, 600, 600}, {20, 500, 512}, {512, 400, 512},
	} {
		expectMove(t, numbered(t), c.n, c.from, c.to, api.OK)
	}
}

func TestMoveRefused(t *testing.T) {
	m := numbered(t)
	for _, c := range []struct {
		n, from, to uint32
		e           api.Errno
	}{
		{1, 1024, 600, api.FatalRead}, {2, 1023, 600, api.FatalRead}, {1, top, 600, api.FatalRead}, {2, top, 600, api.FatalRead}, {1025, 0, 512, api.FatalRead},
		{top, 600, 600, api.FatalRead}, {top - 599, 600, 600, api.FatalRead}, {top - 598, 600, 600, api.FatalRead}, {1 << 31, 1 << 31, 600, api.FatalRead},
		{1, 600, 511, api.FatalWrite}, {2, 600, 511, api.FatalWrite}, {1, 600, 0, api.FatalWrite}, {1, 600, 1024, api.FatalWrite}, {2, 600, 1023, api.FatalWrite}, {513, 0, 512, api.FatalWrite}, {1024, 0, 0, api.FatalWrite}, {2, 600, top, api.FatalWrite}, {1, 600, top, api.FatalWrite}, {100, 600, top - 50, api.FatalWrite},
		// Of two the first: FatalRead.
		{1, 1024, 511, api.FatalRead}, {1, 1024, 1024, api.FatalRead}, {top, 0, 0, api.FatalRead}, {2, 1023, top, api.FatalRead},
	} {
		expectMove(t, m, c.n, c.from, c.to, c.e)
	}
}

// P9.4

// expectResize: Resize answers that; there are n bytes then, or all is as it was.
func expectResize(t *testing.T, m *Memory, n uint32, good bool) {
	t.Helper()
	b := m.Bytes()
	start, l := m.Heap()
	if ok := m.Resize(n); ok != good {
		t.Fatalf("Resize(%d) = %t", n, ok)
	}
	if good {
		b = append(b, make([]byte, 1<<20)...)[:n]
	}
	expectMemory(t, "behind a Resize", m, b, start, l...)
}

// expectMalloc: Malloc answers addr, and m ends at end then, new bytes 0; others are as they were.
func expectMalloc(t *testing.T, m *Memory, n, addr, end uint32) {
	t.Helper()
	b := m.Bytes()
	start, l := m.Heap()
	if at := m.Malloc(n); at != addr {
		t.Fatalf("Malloc(%d) = %d, not %d", n, at, addr)
	}
	if int(end) < len(b) {
		t.Fatalf("a Malloc makes no memory less: %d of %d", end, len(b))
	}
	if addr != 0 {
		if len(l) == 0 {
			start = uint32(len(b))
		}
		l = append(l, block(addr, n))
		slices.SortFunc(l, func(a, b api.Block) int { return int(a.Addr) - int(b.Addr) })
	}
	expectMemory(t, "behind a Malloc", m, append(b, make([]byte, int(end)-len(b))...), start, l...)
}

// expectFree: Free answers e, and m ends at end then; other bytes are as they were.
func expectFree(t *testing.T, m *Memory, addr uint32, e api.Errno, end uint32) {
	t.Helper()
	b := m.Bytes()
	start, l := m.Heap()
	if f := m.Free(addr); f != e {
		t.Fatalf("Free(%d) = %d, not %d", addr, f, e)
	}
	if e == api.OK {
		l = slices.DeleteFunc(l, func(b api.Block) bool { return b.Addr == addr })
	}
	if len(l) == 0 {
		start = 0
	}
	expectMemory(t, "behind a Free", m, b[:end], start, l...)
}

func TestResize(t *testing.T) {
	m := small(t)
	colour(t, m, 0x33)
	for _, n := range []uint32{1024, 1280, 1024, 1 << 20, 1<<20 - 256, 1 << 20, 1024, 4096, 2048} {
		expectResize(t, m, n, true)
		colour(t, m, 0x44)
	}
	for _, n := range []uint32{0, 1, 256, 512, 768, 1023, 1025, 1152, 1279, 1281, 1<<20 - 1, 1<<20 + 1, 1<<20 + 256, 1 << 21, 1 << 31, 1<<31 + 1024, top - 255, top} {
		expectResize(t, m, n, false)
	}
	m = made(t, 256, 1<<20, 1<<20)
	expectResize(t, m, 1<<20, true)
	expectResize(t, m, 1<<20-256, false)
	expectResize(t, m, 1<<20+256, false)
}

func TestResizeNewBytes(t *testing.T) {
	// Bytes that were gone are 0 when they come again.
	m := small(t)
	expectResize(t, m, 2048, true)
	colour(t, m, 0x77)
	expectResize(t, m, 1280, true)
	expectResize(t, m, 2048, true)
	expectRead(t, m, 1276, 4, 0x77777777, api.OK)
	expectRead(t, m, 1280, 4, 0, api.OK)
	expectRead(t, m, 2044, 4, 0, api.OK)
}

func TestResizeWithBlocks(t *testing.T) {
	m := small(t)
	expectMalloc(t, m, 5, 1024, 1280)
	for _, n := range []uint32{0, 1024, 1280, 1536, 1 << 20} {
		expectResize(t, m, n, false)
	}
	expectFree(t, m, 1024, api.OK, 1024)
	expectResize(t, m, 1536, true)
	expectMalloc(t, m, 5, 1536, 1792)
	expectFree(t, m, 1536, api.OK, 1536)
	expectResize(t, m, 1024, true)
}

func TestMalloc(t *testing.T) {
	m := small(t)
	expectMalloc(t, m, 0, 0, 1024)
	expectMalloc(t, m, 1, 1024, 1280)
	expectMalloc(t, m, 255, 1025, 1280)
	expectMalloc(t, m, 256, 1280, 1536)
	expectMalloc(t, m, 257, 1536, 2048)
	colour(t, m, 0x99)
	expectFree(t, m, 1280, api.OK, 2048)
	// What was freed is not new.
	expectMalloc(t, m, 100, 1280, 2048)
	expectRead(t, m, 1280, 4, 0x99999999, api.OK)
	expectMalloc(t, m, 0, 0, 2048)
	expectMalloc(t, m, 300, 1793, 2304)
	expectRead(t, m, 2044, 4, 0x99999999, api.OK)
	expectRead(t, m, 2048, 4, 0, api.OK)
	expectWrite(t, m, 2300, 4, 0x01020304, api.OK)
}

func TestMallocJustMost(t *testing.T) {
	m := small(t)
	expectMalloc(t, m, 1<<20-1024+1, 0, 1024)
	expectMalloc(t, m, top, 0, 1024)
	expectMalloc(t, m, top-1023, 0, 1024)
	expectMalloc(t, m, top-1022, 0, 1024)
	expectMalloc(t, m, 1<<20-1024, 1024, 1<<20)
	expectMalloc(t, m, 1, 0, 1<<20)
	expectFree(t, m, 1024, api.OK, 1024)
	expectResize(t, m, 1<<20, true)
	expectMalloc(t, m, 1, 0, 1<<20)
	expectResize(t, m, 1<<20-256, true)
	expectMalloc(t, m, 257, 0, 1<<20-256)
	expectMalloc(t, m, 256, 1<<20-256, 1<<20)
	m = made(t, 256, 256, 1<<20)
	expectMalloc(t, m, 1, 0, 1<<20)
}

func TestMallocMany(t *testing.T) {
	m := small(t)
	for i := range uint32(4096) {
		if at := m.Malloc(3); at != 1024+3*i {
			t.Fatalf("block %d lies at %d", i, at)
		}
	}
	expectMemory(t, "MaxBlocks", m, append(made(t, 512, 768, 1024).Bytes(), make([]byte, 3*4096)...), 1024, row(4096, 1024, 3)...)
	expectMalloc(t, m, 1, 0, 1024+3*4096)
	expectFree(t, m, 1027, api.OK, 1024+3*4096)
	expectMalloc(t, m, 2, 1027, 1024+3*4096)
	expectMalloc(t, m, 1, 0, 1024+3*4096)
}

func TestFree(t *testing.T) {
	m := small(t)
	for _, addr := range []uint32{0, 1, 512, 1024, 1280, top} {
		expectFree(t, m, addr, api.FatalHeap, 1024)
	}
	expectMalloc(t, m, 300, 1024, 1536)
	expectMalloc(t, m, 600, 1324, 2048)
	colour(t, m, 0x21)
	for _, addr := range []uint32{0, 512, 1023, 1025, 1323, 1325, 1923, 1924, 2048, top, 1<<31 + 1024} {
		expectFree(t, m, addr, api.FatalHeap, 2048)
	}
	// The end stays as long as there is another block.
	expectFree(t, m, 1324, api.OK, 2048)
	expectFree(t, m, 1324, api.FatalHeap, 2048)
	expectFree(t, m, 1024, api.OK, 1024)
	expectFree(t, m, 1024, api.FatalHeap, 1024)
	// And what was beyond it is 0 when it comes again.
	expectMalloc(t, m, 1000, 1024, 2048)
	expectFree(t, m, 1024, api.OK, 1024)
	expectResize(t, m, 2048, true)
}

func TestFreeEndsWhereItBegan(t *testing.T) {
	for _, end := range []uint32{1024, 1280, 65536, 1<<20 - 256} {
		m := small(t)
		expectResize(t, m, end, true)
		expectMalloc(t, m, 200, end, end+256)
		expectMalloc(t, m, 56, end+200, end+256)
		expectFree(t, m, end, api.OK, end+256)
		expectFree(t, m, end+200, api.OK, end)
	}
}

func TestFreeOfWhatWasLoaded(t *testing.T) {
	m := small(t)
	expectLoad(t, "a start below the first block", m, api.OK, coloured(5, 1024), 1280, block(1300, 9))
	expectMalloc(t, m, 20, 1280, 1536)
	expectFree(t, m, 1300, api.OK, 1536)
	expectFree(t, m, 1280, api.OK, 1280)

	// A start below EndMem, and one below RamStart: there the memory ends, and goes on as it can.
	expectLoad(t, "a start below EndMem", m, api.OK, coloured(6, 1024), 768, block(1300, 9))
	expectFree(t, m, 1300, api.OK, 768)
	expectRead(t, m, 768, 1, 0, api.FatalRead)
	expectWrite(t, m, 767, 1, 3, api.OK)
	expectResize(t, m, 768, false)
	expectMalloc(t, m, 5, 768, 1024)
	expectFree(t, m, 768, api.OK, 768)
	expectResize(t, m, 1024, true)
	m.Restart()
	expectSame(t, "begun again", m, small(t))

	expectLoad(t, "a start below RamStart", m, api.OK, coloured(6, 1024), 256, block(256, 9))
	expectFree(t, m, 256, api.OK, 256)
	expectRead(t, m, 256, 1, 0, api.FatalRead)
	expectWrite(t, m, 512, 1, 3, api.FatalWrite)
	expectFill(t, m, 512, 1, api.FatalWrite)
	expectMove(t, m, 1, 0, 512, api.FatalWrite)
	c := m.Copy()
	if !c.Resize(1024) {
		t.Fatal("no Resize")
	}
	expectMemory(t, "what is never changed", c, append(c.Game()[:512], make([]byte, 512)...), 0)
	c = m.Copy()
	if at := c.Malloc(5); at != 256 {
		t.Fatalf("Malloc(5) = %d", at)
	}
	expectMemory(t, "a block there", c, c.Game()[:512], 256, block(256, 5))
	c = m.Copy()
	c.Protect(200, 600)
	c.Restart()
	expectSame(t, "begun again", c, small(t))
	m.Protect(200, 600)
	expectLoad(t, "loaded again", m, api.OK, coloured(8, 768), 0)
}

func TestHeap(t *testing.T) {
	m := small(t)
	expectMemory(t, "no blocks", m, m.Bytes(), 0)
	expectMalloc(t, m, 10, 1024, 1280)
	expectMalloc(t, m, 20, 1034, 1280)
	expectMalloc(t, m, 30, 1054, 1280)
	expectFree(t, m, 1034, api.OK, 1280)
	expectMalloc(t, m, 7, 1034, 1280)
	expectMemory(t, "rising", m, m.Bytes(), 1024, block(1024, 10), block(1034, 7), block(1054, 30))
}

func TestCallsByChance(t *testing.T) {
	r := rand.New(rand.NewSource(94))
	good := map[string]int{}
	for range 700 {
		m, s := someMemory(t, r)
		for range 80 {
			if call, ok := step(t, r, m, s); ok {
				good[call]++
			}
		}
	}
	for _, call := range []string{"Read", "Write", "Fill", "Move", "Resize", "Malloc", "Free", "Protect", "Restart", "Load"} {
		if good[call] < 500 {
			t.Errorf("of %s only %d calls did something", call, good[call])
		}
	}
}
