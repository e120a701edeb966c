package memory

import (
	"bytes"
	"math/rand"
	"slices"
	"testing"

	"grotto/api"
)

// P9.5

// expectLoad: Load answers e; m is that then (nothing is protected where that would change), or as it was.
func expectLoad(t *testing.T, what string, m *Memory, e api.Errno, ram []byte, start uint32, l ...api.Block) {
	t.Helper()
	was := m.Copy()
	if f := m.Load(ram, start, l...); f != e {
		t.Fatalf("%s: Load of %d bytes, %d, %v = %d; not %d", what, len(ram), start, short(l), f, e)
	}
	if e != api.OK {
		expectSame(t, what, m, was)
		return
	}
	expectMemory(t, what, m, append(m.Game()[:m.Header().RamStart], ram...), start, l...)
}

func TestRestart(t *testing.T) {
	m := small(t)
	begun := m.Bytes()
	m.Restart()
	expectMemory(t, "at once", m, begun, 0)
	colour(t, m, 0xee)
	m.Restart()
	expectMemory(t, "written", m, begun, 0)
	m.Resize(4096)
	colour(t, m, 0xee)
	m.Restart()
	expectMemory(t, "longer", m, begun, 0)
	m.Malloc(5)
	m.Malloc(500)
	colour(t, m, 0xee)
	m.Restart()
	expectMemory(t, "with blocks", m, begun, 0)
	expectMalloc(t, m, 5, 1024, 1280)
	m.Restart()
	expectResize(t, m, 1280, true)
	m.Restart()
	expectLoad(t, "with blocks", m, api.OK, coloured(3, 1024), 1280, block(1290, 5))
	m.Restart()
	expectMemory(t, "loaded", m, begun, 0)
	expectFree(t, m, 1290, api.FatalHeap, 1024)
}

func TestProtectRestart(t *testing.T) {
	for _, c := range []struct {
		addr, n  uint32
		from, to int // what stays
	}{
		{600, 1, 600, 601}, {600, 100, 600, 700}, {512, 512, 512, 1024}, {1023, 1, 1023, 1024}, {767, 2, 767, 769},
		{0, 0, 0, 0}, {600, 0, 0, 0}, {1023, 0, 0, 0}, {top, 0, 0, 0},
		// Partly below RamStart, or all.
		{511, 2, 512, 513}, {0, 1024, 512, 1024}, {0, 600, 512, 600}, {0, 512, 0, 0}, {500, 12, 0, 0},
		// Partly beyond the end, or all.
		{1000, 25, 1000, 1024}, {1000, 24, 1000, 1024}, {1023, 2, 1023, 1024}, {1024, 1, 0, 0}, {1024, 1000, 0, 0}, {1 << 20, 1, 0, 0}, {1 << 31, 1 << 31, 0, 0}, {top, 1, 0, 0}, {top, top, 0, 0},
		// Beyond the greatest word: nothing comes round to the first bytes.
		{0, top, 512, 1024}, {600, top, 600, 1024}, {600, top - 599, 600, 1024}, {600, top - 598, 600, 1024}, {1000, top - 300, 1000, 1024}, {top - 99, 1000, 0, 0}, {1 << 31, 1<<31 + 1000, 0, 0},
	} {
		for _, size := range []uint32{1024, 1280, 4096} {
			m := small(t)
			begun := m.Bytes()
			m.Resize(size)
			colour(t, m, 0xee)
			was := m.Copy()
			m.Protect(c.addr, c.n)
			expectSame(t, "Protect alone", m, was)
			m.Restart()
			want := splice(begun, c.from, coloured(0xee, c.to-c.from))
			expectMemory(t, "protected", m, want, 0)
			m.Restart()
			expectMemory(t, "protected, twice", m, want, 0)
		}
	}
}

func TestProtectLoad(t *testing.T) {
	for _, c := range []struct {
		size, end uint32 // ahead of it, behind it
		addr, n   uint32
		from, to  int // what stays
	}{
		{1024, 1024, 600, 1, 600, 601}, {1024, 1024, 512, 512, 512, 1024}, {1024, 1024, 600, 0, 0, 0}, {1024, 1024, 0, 0, 0, 0},
		{1024, 1024, 500, 100, 512, 600}, {1024, 1024, 0, 512, 0, 0}, {1024, 1024, 0, 513, 512, 513},
		{1024, 1024, 1000, 100, 1000, 1024}, {1024, 1024, 600, top, 600, 1024}, {1024, 1024, 1024, 50, 0, 0}, {1024, 1024, 1 << 31, 1<<31 + 1000, 0, 0},
		// It was there only in part.
		{1024, 1280, 1000, 100, 1000, 1024}, {1024, 1280, 1023, 2, 1023, 1024}, {1024, 1280, 1024, 100, 0, 0}, {1024, 2048, 0, top, 512, 1024},
		// It is there only in part.
		{1280, 1024, 1000, 100, 1000, 1024}, {1280, 1024, 1023, 2, 1023, 1024}, {1280, 1024, 1024, 100, 0, 0}, {2048, 1024, 0, top, 512, 1024},
		{1280, 1536, 1100, 1000, 1100, 1280}, {1536, 1280, 1100, 1000, 1100, 1280}, {1 << 20, 1 << 20, 0, top, 512, 1 << 20},
	} {
		for _, blocks := range []bool{false, true} {
			m := small(t)
			m.Resize(c.size)
			colour(t, m, 0xee)
			m.Protect(c.addr, c.n)
			ram := coloured(0x11, int(c.end)-512)
			var start uint32
			var l []api.Block
			if blocks {
				start, l = c.end-256, []api.Block{block(c.end-200, 5), block(c.end-1, 1)}
			}
			if e := m.Load(ram, start, l...); e != api.OK {
				t.Fatalf("Load = %d", e)
			}
			want := splice(append(m.Game()[:512], ram...), c.from, coloured(0xee, c.to-c.from))
			expectMemory(t, "protected", m, want, start, l...)
			m.Load(coloured(0x12, int(c.end)-512), start, l...)
			want = splice(append(m.Game()[:512], coloured(0x12, int(c.end)-512)...), c.from, coloured(0xee, c.to-c.from))
			// What came with the first one has been there since.
			from, to := max(int(c.addr), int(c.size)), min(int(c.addr)+int(c.n), int(c.end))
			if from < to {
				want = splice(want, from, coloured(0x11, to-from))
			}
			expectMemory(t, "protected, twice", m, want, start, l...)
		}
	}
}

func TestProtectNoOthers(t *testing.T) {
	m := small(t)
	begun := m.Bytes()
	for _, c := range []struct {
		addr, n  uint32
		from, to int
	}{{600, 10, 600, 610}, {605, 20, 605, 625}, {700, 1, 700, 701}, {0, 0, 0, 0}, {900, 100, 900, 1000}, {900, 0, 0, 0}, {512, 1, 512, 513}} {
		colour(t, m, 0xee)
		m.Protect(c.addr, c.n)
		m.Restart()
		expectMemory(t, "the last Protect", m, splice(begun, c.from, coloured(0xee, c.to-c.from)), 0)
	}
}

func TestProtectedMayBeWritten(t *testing.T) {
	m := small(t)
	m.Protect(0, top)
	expectWrite(t, m, 511, 1, 1, api.FatalWrite)
	expectWrite(t, m, 600, 4, 0x01020304, api.OK)
	expectMove(t, m, 4, 600, 700, api.OK)
	expectFill(t, m, 602, 1, api.OK)
	expectResize(t, m, 1280, true)
	expectWrite(t, m, 1276, 4, top, api.OK)
	expectResize(t, m, 1024, true)
	expectResize(t, m, 1280, true)
	expectResize(t, m, 1024, true)
	expectMalloc(t, m, 5, 1024, 1280)
	expectWrite(t, m, 1024, 4, top, api.OK)
	expectFree(t, m, 1024, api.OK, 1024)
	expectMalloc(t, m, 5, 1024, 1280)
	m.Restart()
	expectRead(t, m, 600, 4, 0x01020004, api.OK)
	expectRead(t, m, 700, 4, 0x01020304, api.OK)
	if m.Size() != 1024 {
		t.Errorf("the size is %d", m.Size())
	}
}

func TestLoad(t *testing.T) {
	m := small(t)
	expectLoad(t, "just EndMem", m, api.OK, coloured(1, 512), 0)
	expectLoad(t, "a page more", m, api.OK, coloured(2, 768), 0)
	expectLoad(t, "no block, by an empty list", m, api.OK, coloured(3, 512), 0, []api.Block{}...)
	expectLoad(t, "MaxMem", m, api.OK, coloured(4, 1<<20-512), 0)
	expectLoad(t, "a block", m, api.OK, coloured(5, 768), 1024, block(1024, 256))
	expectLoad(t, "another one", m, api.OK, coloured(6, 1024), 1024, block(1100, 2))
	expectLoad(t, "the same again", m, api.OK, coloured(7, 1024), 1024, block(1100, 2))
	expectLoad(t, "some", m, api.OK, coloured(8, 2048), 1280, block(1280, 1), block(1281, 20), block(1400, 100), block(2559, 1))
	expectMalloc(t, m, 99, 1301, 2560)
	expectMalloc(t, m, 2000, 2560, 4608)
	expectLoad(t, "none any more", m, api.OK, coloured(9, 512), 0)
	expectResize(t, m, 1280, true)
	expectLoad(t, "MaxBlocks", m, api.OK, coloured(10, 8192), 512, row(4096, 512, 2)...)
	expectMalloc(t, m, 1, 0, 8704)
	expectLoad(t, "MaxMem with a block at the end", m, api.OK, coloured(11, 1<<20-512), 1<<20-256, block(1<<20-1, 1))
	expectMalloc(t, m, 255, 1<<20-256, 1<<20)
	expectMalloc(t, m, 1, 0, 1<<20)

	m = made(t, 512, 512, 512)
	expectLoad(t, "no bytes", m, api.OK, nil, 0)
	expectLoad(t, "no bytes, but a block", m, api.OK, nil, 256, block(256, 256))
	expectLoad(t, "a page", m, api.OK, coloured(1, 256), 0)
	m = made(t, 1<<20, 1<<20, 1<<20)
	expectLoad(t, "no bytes behind MaxMem", m, api.OK, []byte{}, 0)
	expectLoad(t, "a page behind MaxMem", m, api.ErrArg, make([]byte, 256), 0)
}

func TestLoadRefused(t *testing.T) {
	m := small(t)
	colour(t, m, 0x31)
	m.Malloc(5)
	m.Protect(600, 100)
	ram := make([]byte, 1<<20)
	one := block(1100, 10)
	for _, n := range []int{0, 1, 255, 256, 511, 513, 600, 767, 769, 1<<20 - 513, 1<<20 - 511, 1<<20 - 256, 1 << 20} {
		expectLoad(t, "bytes", m, api.ErrArg, ram[:n], 0)
		expectLoad(t, "bytes, with a block", m, api.ErrArg, ram[:n], 1024, block(1024, 1))
	}
	expectLoad(t, "more bytes than there can be", m, api.ErrArg, make([]byte, 1<<24), 0)
	for _, c := range []struct {
		what  string
		start uint32
		l     []api.Block
	}{
		{"a start, and no block", 1024, nil},
		{"a start, and an empty list", 256, []api.Block{}},
		{"no start", 0, []api.Block{one}},
		{"a start that is no page's", 1025, []api.Block{one}},
		{"a start behind the block", 1280, []api.Block{one}},
		{"a block of no bytes", 1024, []api.Block{block(1100, 0)}},
		{"a block below the start", 1024, []api.Block{block(1023, 10)}},
		{"a block beyond the end", 1024, []api.Block{block(1271, 10)}},
		{"a block at the end", 1024, []api.Block{block(1280, 1)}},
		{"a block that wraps round", 1024, []api.Block{block(1100, top)}},
		{"a block far behind", 1024, []api.Block{block(top, 1)}},
		{"falling blocks", 1024, []api.Block{one, block(1050, 5)}},
		{"blocks that share a byte", 1024, []api.Block{one, block(1109, 5)}},
		{"the same block", 1024, []api.Block{one, one}},
	} {
		expectLoad(t, c.what, m, api.ErrArg, ram[:768], c.start, c.l...)
	}
	// The same bytes with what may be are taken.
	expectLoad(t, "a start without a block below it", small(t), api.OK, ram[:768], 1024, one, block(1110, 170))
}

func TestLoadFirstError(t *testing.T) {
	m := small(t)
	colour(t, m, 0x31)
	m.Malloc(5)
	m.Protect(600, 100)
	many := row(4097, 512, 2)
	expectLoad(t, "too many blocks", m, api.ErrMany, make([]byte, 16384-512), 512, many...)
	expectLoad(t, "and a length that is wrong", m, api.ErrMany, make([]byte, 1000), 512, many...)
	expectLoad(t, "and too few bytes", m, api.ErrMany, nil, 512, many...)
	expectLoad(t, "and too many bytes", m, api.ErrMany, make([]byte, 1<<20), 512, many...)
	expectLoad(t, "and no start", m, api.ErrMany, make([]byte, 16384-512), 0, many...)
	expectLoad(t, "and blocks that may not be", m, api.ErrMany, make([]byte, 16384-512), 512, make([]api.Block, 4097)...)
	expectLoad(t, "and all of it", m, api.ErrMany, make([]byte, 7), 3, make([]api.Block, 5000)...)
	expectLoad(t, "just not too many, and a wrong length", m, api.ErrArg, make([]byte, 16384-1), 512, row(4096, 512, 2)...)
	expectLoad(t, "just not too many, which may not be", m, api.ErrArg, make([]byte, 16384-512), 512, make([]api.Block, 4096)...)
	// What was refused has not lifted the protection either.
	m.Restart()
	want := splice(small(t).Bytes(), 600, coloured(0x31, 100))
	expectMemory(t, "still protected", m, want, 0)
}

// P9.6

func TestCopy(t *testing.T) {
	m := small(t)
	expectSame(t, "a copy at once", m.Copy(), m)
	m.Malloc(300)
	m.Malloc(5)
	colour(t, m, 0x61)
	m.Protect(600, 10)
	c := m.Copy()
	expectSame(t, "a copy", c, m)
	b := m.Bytes()
	expectWrite(t, c, 600, 4, 0x01020304, api.OK)
	expectFree(t, c, 1324, api.OK, 1536)
	expectMalloc(t, c, 700, 1324, 2048)
	c.Protect(700, 10)
	expectMemory(t, "what was copied", m, b, 1024, block(1024, 300), block(1324, 5))
	colour(t, m, 0x62)
	expectRead(t, c, 1024, 4, 0x61616161, api.OK)
	c.Restart()
	m.Restart()
	expectMemory(t, "what was copied, begun again", m, splice(small(t).Bytes(), 600, coloured(0x62, 10)), 0)
	expectMemory(t, "the copy, begun again", c, splice(small(t).Bytes(), 700, coloured(0x61, 10)), 0)
}

func TestCopyHasTheProtection(t *testing.T) {
	m := small(t)
	colour(t, m, 0x61)
	m.Protect(1000, top)
	want := splice(small(t).Bytes(), 1000, coloured(0x61, 24))
	c := m.Copy().Copy()
	c.Restart()
	expectMemory(t, "the copy's copy", c, want, 0)
	c = m.Copy()
	m.Protect(0, 0)
	if e := c.Load(coloured(0x50, 512), 0); e != api.OK {
		t.Fatal(e)
	}
	expectMemory(t, "the copy", c, append(append(c.Game()[:512], coloured(0x50, 488)...), coloured(0x61, 24)...), 0)
}

func TestCopyApart(t *testing.T) {
	r := rand.New(rand.NewSource(96))
	for range 150 {
		m, s := someMemory(t, r)
		for range 20 {
			step(t, r, m, s)
		}
		c, d := m.Copy(), s.copied()
		for range 20 {
			step(t, r, m, s)
			step(t, r, c, d)
			expectIs(t, "what was copied", m, s)
		}
	}
}

func TestNil(t *testing.T) {
	var m *Memory
	if m.Header() != (api.Header{}) || m.Size() != 0 || len(m.Bytes()) != 0 || len(m.Game()) != 0 || m.Copy() != nil {
		t.Error("a nil memory tells of something")
	}
	if start, l := m.Heap(); start != 0 || len(l) != 0 {
		t.Errorf("Heap of nil = %d, %v", start, l)
	}
	for _, a := range []uint32{0, 1, 2, 256, 512, 1024, 1 << 20, top} {
		for _, n := range []int{0, 1, 2, 3, 4, -1} {
			if x, e := m.Read(a, n); x != 0 || e != api.ErrNil {
				t.Errorf("Read(%d, %d) of nil = %d, %d", a, n, x, e)
			}
			if e := m.Write(a, n, 7); e != api.ErrNil {
				t.Errorf("Write(%d, %d, 7) of nil = %d", a, n, e)
			}
		}
		for _, n := range []uint32{0, 1, top} {
			if e := m.Fill(a, n); e != api.ErrNil {
				t.Errorf("Fill(%d, %d) of nil = %d", a, n, e)
			}
			if e := m.Move(n, a, 0); e != api.ErrNil {
				t.Errorf("Move(%d, %d, 0) of nil = %d", n, a, e)
			}
			m.Protect(a, n)
		}
		if m.Resize(a) || m.Malloc(a) != 0 {
			t.Errorf("Resize or Malloc of nil, %d", a)
		}
		if e := m.Free(a); e != api.ErrNil {
			t.Errorf("Free(%d) of nil = %d", a, e)
		}
		for _, l := range [][]api.Block{nil, {block(256, 1)}, {block(0, 0)}, make([]api.Block, 4097)} {
			for _, n := range []int{0, 1, 256, 1<<20 + 1} {
				if e := m.Load(make([]byte, n), a, l...); e != api.ErrNil {
					t.Errorf("Load(%d bytes, %d, %d blocks) of nil = %d", n, a, len(l), e)
				}
			}
		}
	}
	m.Restart()
}

func TestZeroValueEnds(t *testing.T) {
	// What it answers is open, but none of it panics.
	for range 2 {
		m := new(Memory)
		m.Header()
		m.Read(0, 1)
		m.Write(0, 1, 1)
		m.Fill(0, 1)
		m.Move(1, 0, 0)
		m.Malloc(5)
		m.Free(0)
		m.Heap()
		m.Load(make([]byte, 256), 0)
		m.Load(make([]byte, 512), 256, block(300, 5))
		m.Resize(256)
		m.Malloc(5)
		m.Protect(0, 100)
		m.Copy().Bytes()
		m.Game()
		m.Restart()
		m.Malloc(5)
		m.Resize(256)
		m.Malloc(5)
	}
}

// Rules that hold everywhere: Memory

func TestNothingIsShared(t *testing.T) {
	game, _ := gameOf(t, 512, 768, 1024)
	room := append(make([]byte, 0, 4096), game...)
	spread(room[len(room):], 0xcc)
	kept := bytes.Clone(room[:cap(room)])
	m, _, _ := New(room)
	other, _, _ := New(room)
	begun := other.Bytes()
	colour(t, m, 0x10)
	m.Resize(4096)
	colour(t, m, 0x10)
	if !bytes.Equal(room[:cap(room)], kept) {
		t.Error("the game that New was handed has changed")
	}
	expectMemory(t, "another memory", other, begun, 0)
	spread(room, 0xdd)
	if !bytes.Equal(m.Game(), game) {
		t.Error("a memory keeps the game that it was handed")
	}
	other.Restart()
	expectMemory(t, "another memory, begun again", other, begun, 0)

	for _, answer := range []func() []byte{m.Bytes, m.Game, m.Copy().Bytes, m.Copy().Game} {
		first, second := answer(), answer()
		was := bytes.Clone(second)
		spread(first, 0xee)
		if !bytes.Equal(second, was) || !bytes.Equal(answer(), was) {
			t.Error("an answer shares its memory")
		}
	}
	b, g := m.Bytes(), m.Game()
	kept = bytes.Clone(b)
	colour(t, m, 0x20)
	m.Resize(1024)
	m.Malloc(9)
	if !bytes.Equal(b, kept) || !bytes.Equal(g, game) {
		t.Error("a memory changes what it answered")
	}
}

// spread: all bytes of b, its spare room included, are c.
func spread(b []byte, c byte) {
	b = b[:cap(b)]
	for i := range b {
		b[i] = c
	}
}

func TestLoadSharesNothing(t *testing.T) {
	m := small(t)
	ram := append(make([]byte, 0, 4096), coloured(0x44, 1024)...)
	spread(ram[len(ram):], 0xcc)
	l := append(make([]api.Block, 0, 40), block(1300, 10), block(1400, 5))
	keptRam, keptList := bytes.Clone(ram[:cap(ram)]), slices.Clone(l[:cap(l)])
	expectLoad(t, "to begin with", m, api.OK, ram, 1280, l...)
	want := m.Bytes()
	m.Malloc(1)
	m.Free(1300)
	m.Write(600, 4, 0)
	m.Malloc(2000)
	if !bytes.Equal(ram[:cap(ram)], keptRam) || !slices.Equal(l[:cap(l)], keptList) {
		t.Error("what Load was handed has changed")
	}
	expectLoad(t, "again", m, api.OK, ram, 1280, l...)
	_, first := m.Heap()
	spread(ram, 0xdd)
	l[0], l[1], first[0] = block(7, 7), block(8, 8), block(9, 9)
	expectMemory(t, "what was handed is filled", m, want, 1280, block(1300, 10), block(1400, 5))

	// Protected bytes stay in the memory, and what was handed stays as it is.
	ram = coloured(0x55, 1024)
	m.Protect(600, 10)
	m.Load(ram, 0)
	if !bytes.Equal(ram, coloured(0x55, 1024)) {
		t.Error("what Load was handed has changed by what is protected")
	}
}
