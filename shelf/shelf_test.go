package shelf

import (
	"bytes"
	"fmt"
	"math/rand"
	"slices"
	"testing"

	"grotto/api"
)

// P15.1

func TestNew(t *testing.T) {
	for _, most := range []int{0, 1, 10, 1048575, 1048576} {
		b := begin(t, most)
		if len(b.s.Names()) != 0 || b.s.Total() != 0 || len(b.s.Streams()) != 0 {
			t.Errorf("New(%d): %q, %d bytes, streams %v", most, b.s.Names(), b.s.Total(), b.s.Streams())
		}
		b.notLaid("a", most+1, api.ErrFull)
		b.notLaid("a", most, api.OK)
	}
}

func TestNewOfNoShelf(t *testing.T) {
	for _, most := range []int{-1, -2, -1048576, 1048577, 1048578, 1 << 31, 1 << 32, 1<<32 + 5, least, greatest} {
		if s, e := New(most); s != nil || e != api.ErrArg {
			t.Errorf("New(%d) = %v, %d", most, s, e)
		}
	}
}

func TestPutAndGet(t *testing.T) {
	b := begin(t, 1000)
	for i, name := range someNames() {
		b.laid(name, "first")
		b.has(name, "first")
		b.laid(name, "")
		b.has(name, "")
		b.laid(name, "the second\x00\xff")
		b.has(name, "the second\x00\xff")
		if b.s.Total() != 12*(i+1) {
			t.Errorf("%d bytes in all", b.s.Total())
		}
	}
	for _, name := range wrongNames() {
		b.notLaid(name, 0, api.ErrArg)
		b.notLaid(name, 5, api.ErrArg)
		b.notLaid(name, 2000, api.ErrArg)
	}
	for _, name := range append(wrongNames(), "none", "c") {
		if l, ok := b.s.Get(name); len(l) != 0 || ok {
			t.Errorf("Get(%q) = %v, %t", name, l, ok)
		}
	}
}

func TestPutErrors(t *testing.T) {
	b := filled(t, 64, 100)
	b.opened("0", api.StreamRead, false, 1)
	b.opened("1", api.StreamBoth, true, 2)
	// Each error ahead of those that are named behind it.
	b.notLaid("", 1000, api.ErrArg)
	b.notLaid("0", 1000, api.ErrThere)
	b.notLaid("0", 1, api.ErrThere)
	b.notLaid("1", 0, api.ErrThere)
	b.notLaid("none", 1000, api.ErrMany)
	b.notLaid("none", 0, api.ErrMany)
	b.notLaid("2", 38, api.ErrFull)
	b.notLaid("2", 37, api.OK)
	// Where the streams are closed, and a file is gone, there is room.
	b.closed(1, 0, 0)
	b.notLaid("0", 2, api.ErrFull)
	b.notLaid("0", 1, api.OK)
	b.closed(2, 0, 0)
	b.deleted("1", true)
	b.notLaid("none", 2, api.ErrFull)
	b.notLaid("none", 1, api.OK)
}

// filled: a shelf of so many files of one byte each, "0" and on.
func filled(t *testing.T, files, most int) *both {
	t.Helper()
	b := begin(t, most)
	for i := range files {
		b.laid(fmt.Sprint(i), "x")
	}
	return b
}

func TestPutOfAsManyBytesAsMayBe(t *testing.T) {
	b := begin(t, 10)
	b.notLaid("a", 11, api.ErrFull)
	b.notLaid("a", 10, api.OK)
	b.notLaid("b", 1, api.ErrFull)
	b.notLaid("b", 0, api.OK)
	// What the file had does not count.
	b.notLaid("a", 11, api.ErrFull)
	b.notLaid("a", 10, api.OK)
	b.notLaid("a", 6, api.OK)
	b.notLaid("b", 5, api.ErrFull)
	b.notLaid("b", 4, api.OK)
	b.notLaid("a", 7, api.ErrFull)
	b.deleted("b", true)
	b.notLaid("a", 7, api.OK)
	if b.s.Total() != 7 {
		t.Errorf("%d bytes in all", b.s.Total())
	}
	none := begin(t, 0)
	none.notLaid("a", 1, api.ErrFull)
	none.notLaid("a", 0, api.OK)
	none.notLaid("b", 0, api.OK)
}

func TestDelete(t *testing.T) {
	b := begin(t, 100)
	for _, name := range append(wrongNames(), someNames()...) {
		b.deleted(name, false)
	}
	for _, mode := range modes() {
		b.laid("a", "abc")
		b.laid("b", "def")
		n, _ := b.open("a", mode, false)
		b.deleted("a", false)
		b.deleted("b", true)
		b.deleted("b", false)
		b.close(n)
		b.deleted("a", true)
		b.deleted("a", false)
	}
	// A stream of two is one.
	b.laid("a", "abc")
	first, _ := b.open("a", api.StreamRead, false)
	second, _ := b.open("a", api.StreamRead, false)
	b.close(first)
	b.deleted("a", false)
	b.close(second)
	b.deleted("a", true)
	// One on a buffer has no part in it.
	b.laid("a", "abc")
	b.buffer([]uint32{97, 98, 99}, api.StreamBoth, false)
	b.laid("a", "abcd")
	b.deleted("a", true)
	b.notOpened("a", api.StreamRead, api.ErrNone)
}

func TestNamesRise(t *testing.T) {
	b := begin(t, 100)
	for _, name := range []string{"b", "\xff", "ab", "a", "\x00", "B", "\xc3\xa4", "a\x00", "z", "\xff\x00"} {
		b.laid(name, "")
	}
	want := []string{"\x00", "B", "a", "a\x00", "ab", "b", "z", "\xc3\xa4", "\xff", "\xff\x00"}
	for range 20 {
		if !slices.Equal(b.s.Names(), want) {
			t.Fatalf("%q", b.s.Names())
		}
	}
}

func TestManyFiles(t *testing.T) {
	b := filled(t, 63, 1000)
	b.opened("last", api.StreamWrite, false, 1)
	if len(b.s.Names()) != 64 || b.s.Total() != 63 {
		t.Errorf("%d files of %d bytes", len(b.s.Names()), b.s.Total())
	}
	b.notLaid("one more", 0, api.ErrMany)
	for _, mode := range []int{api.StreamWrite, api.StreamBoth, api.StreamAppend} {
		b.notOpened("one more", mode, api.ErrMany)
	}
	b.notOpened("one more", api.StreamRead, api.ErrNone)
	// Those that are there are not one more.
	b.laid("5", "xyz")
	b.opened("6", api.StreamAppend, false, 2)
	b.deleted("7", true)
	b.opened("one more", api.StreamAppend, false, 3)
	b.notLaid("7", 0, api.ErrMany)
}

// P15.1 to P15.6: the chapter's examples

func TestFirstExample(t *testing.T) {
	b := begin(t, 10)
	b.opened("a", api.StreamWrite, false, 1)
	b.wrote(1, 72, 300)
	b.stands(1, 2, 2)
	b.closed(1, 0, 2)
	b.has("a", "\x48\x3f")
	b.opened("a", api.StreamRead, true, 2)
	b.readsNone(2)
	b.buffered([]uint32{0, 0}, api.StreamWrite, false, 3)
	b.wrote(3, 1, 2, 3)
	b.closed(3, 0, 3, 1, 2)
}

// P15.2

func TestEachModeAtAFileThatIsThere(t *testing.T) {
	for _, c := range []struct {
		mode          int
		wide          bool
		place, size   int
		after         string
		reads, writes bool
	}{
		{api.StreamWrite, false, 0, 0, "", false, true},
		{api.StreamRead, false, 0, 10, "0123456789", true, false},
		{api.StreamBoth, false, 0, 10, "0123456789", true, true},
		{api.StreamAppend, false, 10, 10, "0123456789", false, true},
		{api.StreamWrite, true, 0, 0, "", false, true},
		{api.StreamRead, true, 0, 2, "0123456789", true, false},
		{api.StreamBoth, true, 0, 2, "0123456789", true, true},
		{api.StreamAppend, true, 2, 2, "0123456789", false, true},
	} {
		b := begin(t, 100)
		b.laid("a", "0123456789")
		b.opened("a", c.mode, c.wide, 1)
		b.stands(1, c.place, c.size)
		b.has("a", c.after)
		b.expectMay(1, c.reads, c.writes)
	}
}

func TestEachModeAtAFileThatIsNotThere(t *testing.T) {
	for _, wide := range []bool{false, true} {
		for _, name := range someNames() {
			b := begin(t, 100)
			b.notOpened(name, api.StreamRead, api.ErrNone)
			for i, mode := range []int{api.StreamWrite, api.StreamBoth, api.StreamAppend} {
				b.opened(name, mode, wide, i+1)
				b.stands(i+1, 0, 0)
				b.has(name, "")
				b.expectMay(i+1, mode == api.StreamBoth, true)
				b.close(i + 1)
				b.deleted(name, true)
			}
			if len(b.s.Names()) != 0 {
				t.Errorf("files %q", b.s.Names())
			}
		}
	}
}

// expectMay: whether a stream reads, whether it writes.
func (b *both) expectMay(stream int, reads, writes bool) {
	b.t.Helper()
	want := func(may bool) api.Errno {
		if may {
			return api.OK
		}
		return api.ErrArg
	}
	if _, _, e := b.read(stream); e != want(reads) {
		b.t.Errorf("Read(%d): %d", stream, e)
	}
	if _, e := b.line(stream, 3); e != want(reads) {
		b.t.Errorf("Line(%d, 3): %d", stream, e)
	}
	for _, l := range [][]uint32{nil, {7}, {7, 8, 9}} {
		if e := b.write(stream, l...); e != want(writes) {
			b.t.Errorf("Write(%d, %v): %d", stream, l, e)
		}
	}
}

func TestOpenErrors(t *testing.T) {
	b := filled(t, 64, 100)
	// A name and a mode that are none, ahead of all else, whether the file is there or not.
	check := func() {
		t.Helper()
		for _, name := range wrongNames() {
			for _, mode := range append(wrongModes(), modes()...) {
				b.notOpened(name, mode, api.ErrArg)
			}
		}
		for _, mode := range wrongModes() {
			b.notOpened("1", mode, api.ErrArg)
			b.notOpened("none", mode, api.ErrArg)
		}
	}
	check()
	b.opened("0", api.StreamWrite, false, 1)
	for i := range 62 {
		b.buffered(nil, api.StreamRead, false, i+2)
	}
	// With one stream left the errors behind ErrMany are told.
	b.notOpened("none", api.StreamRead, api.ErrNone)
	b.notOpened("none", api.StreamWrite, api.ErrMany)
	b.notOpened("0", api.StreamRead, api.ErrThere)
	b.buffered(nil, api.StreamRead, false, 64)
	check()
	// With none left, too many streams come ahead of no file and of a file on which one lies.
	b.notOpened("none", api.StreamRead, api.ErrMany)
	b.notOpened("none", api.StreamWrite, api.ErrMany)
	b.notOpened("0", api.StreamRead, api.ErrMany)
	b.notOpened("1", api.StreamRead, api.ErrMany)
	b.closed(64, 0, 0)
	b.opened("1", api.StreamRead, false, 65)
}

func TestModesBesideOneAnother(t *testing.T) {
	for _, first := range modes() {
		for _, second := range modes() {
			b := begin(t, 100)
			b.laid("a", "abc")
			b.laid("b", "def")
			b.opened("a", first, false, 1)
			if first == api.StreamRead && second == api.StreamRead {
				b.opened("a", second, true, 2)
			} else {
				b.notOpened("a", second, api.ErrThere)
			}
			// Another file is no matter, and one that is closed is not there.
			n, _ := b.open("b", second, false)
			if n == 0 {
				t.Errorf("modes %d, %d on two files: refused", first, second)
			}
			b.close(n)
			for _, stream := range b.s.Streams() {
				b.close(stream)
			}
			b.opened("a", second, false, n+1)
		}
	}
}

func TestReadTwiceAtOnce(t *testing.T) {
	b := begin(t, 100)
	b.laid("a", "\x00\x00\x00\x07ab")
	b.opened("a", api.StreamRead, false, 1)
	b.opened("a", api.StreamRead, true, 2)
	b.opened("a", api.StreamRead, false, 3)
	b.reads(1, 0, 0, 0, 7)
	b.stands(2, 0, 1)
	b.stands(3, 0, 6)
	b.reads(2, 7)
	b.readsNone(2)
	b.reads(1, 'a', 'b')
	b.reads(3, 0)
	for _, mode := range []int{api.StreamWrite, api.StreamBoth, api.StreamAppend} {
		b.notOpened("a", mode, api.ErrThere)
	}
	b.closed(1, 6, 0)
	b.notOpened("a", api.StreamBoth, api.ErrThere)
	b.closed(3, 1, 0)
	b.notOpened("a", api.StreamBoth, api.ErrThere)
	b.notLaid("a", 0, api.ErrThere)
	b.closed(2, 1, 0)
	b.opened("a", api.StreamBoth, false, 4)
	b.notOpened("a", api.StreamRead, api.ErrThere)
}

func TestBuffers(t *testing.T) {
	chars := []uint32{0, 10, 63, 255, 256, 257, 1 << 31, top}
	for _, mode := range []int{api.StreamWrite, api.StreamRead, api.StreamBoth} {
		for _, wide := range []bool{false, true} {
			want := chars
			if !wide {
				want = []uint32{0, 10, 63, 255, 63, 63, 63, 63}
			}
			b := begin(t, 0)
			b.buffered(chars, mode, wide, 1)
			b.stands(1, 0, 8)
			b.closed(1, 0, 0, want...)
			b.buffered(nil, mode, wide, 2)
			b.stands(2, 0, 0)
			b.expectMay(2, mode != api.StreamWrite, mode != api.StreamRead)
			b.close(2)
			b.buffered(make([]uint32, 4096), mode, wide, 3)
			b.stands(3, 0, 4096)
			b.expectMay(3, mode != api.StreamWrite, mode != api.StreamRead)
			if len(b.s.Names()) != 0 || b.s.Total() != 0 {
				t.Errorf("files %q of %d bytes", b.s.Names(), b.s.Total())
			}
		}
	}
}

func TestBufferErrors(t *testing.T) {
	b := begin(t, 100)
	check := func() {
		t.Helper()
		for _, n := range []int{0, 1, 4096, 4097} {
			for _, mode := range append(wrongModes(), api.StreamAppend) {
				b.notBuffered(n, mode, api.ErrArg)
			}
		}
		for _, mode := range modes() {
			b.notBuffered(4097, mode, api.ErrArg)
			b.notBuffered(10000, mode, api.ErrArg)
		}
	}
	check()
	for i := range 64 {
		b.buffered([]uint32{uint32(i)}, api.StreamBoth, true, i+1)
	}
	check()
	for _, mode := range []int{api.StreamWrite, api.StreamRead, api.StreamBoth} {
		b.notBuffered(0, mode, api.ErrMany)
		b.notBuffered(4096, mode, api.ErrMany)
	}
	b.closed(7, 0, 0, 6)
	b.buffered(nil, api.StreamRead, true, 65)
	b.notBuffered(0, api.StreamRead, api.ErrMany)
}

// P15.3

func TestWriteOfNarrowCharacters(t *testing.T) {
	b := begin(t, 100)
	b.opened("a", api.StreamWrite, false, 1)
	b.wrote(1)
	b.stands(1, 0, 0)
	b.wrote(1, 255)
	b.stands(1, 1, 1)
	b.wrote(1, 0, 254, 255, 256, 257, 1<<16+65, 1<<31, top)
	b.stands(1, 9, 9)
	b.has("a", "\xff\x00\xfe\xff?????")
	b.closed(1, 0, 9)
}

func TestWriteOfWideCharacters(t *testing.T) {
	b := begin(t, 100)
	b.opened("a", api.StreamWrite, true, 1)
	b.wrote(1)
	b.wrote(1, 255)
	b.wrote(1, 256, 0x01020304, top)
	b.stands(1, 4, 4)
	b.has("a", "\x00\x00\x00\xff\x00\x00\x01\x00\x01\x02\x03\x04\xff\xff\xff\xff")
	b.moved(1, 1, api.FromStart, 1)
	b.wrote(1, 0x0a0b0c0d)
	b.stands(1, 2, 4)
	b.has("a", "\x00\x00\x00\xff\x0a\x0b\x0c\x0d\x01\x02\x03\x04\xff\xff\xff\xff")
	b.closed(1, 0, 5)
}

func TestWriteWithinAndBeyond(t *testing.T) {
	b := begin(t, 100)
	b.laid("a", "abcdef")
	b.opened("a", api.StreamBoth, false, 1)
	b.wrote(1, 'A', 'B')
	b.has("a", "ABcdef")
	b.reads(1, 'c')
	b.wrote(1, 'D')
	b.moved(1, -1, api.FromEnd, 5)
	b.wrote(1, 'F', 'G', 'H')
	b.has("a", "ABcDeFGH")
	b.stands(1, 8, 8)
	b.closed(1, 1, 6)
	// One that appends begins at the end, and may be led elsewhere.
	b.opened("a", api.StreamAppend, false, 2)
	b.wrote(2, 'I')
	b.moved(2, 0, api.FromStart, 0)
	b.wrote(2, '0')
	b.has("a", "0BcDeFGHI")
	b.closed(2, 0, 2)
	// One that writes begins with none.
	b.opened("a", api.StreamWrite, false, 3)
	b.wrote(3, 'z')
	b.has("a", "z")
	b.closed(3, 0, 1)
}

func TestBytesThatAreLeftOver(t *testing.T) {
	for left := range 4 {
		over := "xyz"[:left]
		b := begin(t, 100)
		b.laid("a", "\x00\x00\x00\x01\x00\x00\x00\x02"+over)
		b.opened("a", api.StreamRead, true, 1)
		b.stands(1, 0, 2)
		b.reads(1, 1, 2)
		b.readsNone(1)
		b.moved(1, 9, api.FromStart, 2)
		b.closed(1, 2, 0)
		// Ahead of them: they stay.
		b.opened("a", api.StreamBoth, true, 2)
		b.wrote(2, 7)
		b.stands(2, 1, 2)
		b.wrote(2, 8)
		b.stands(2, 2, 2)
		b.has("a", "\x00\x00\x00\x07\x00\x00\x00\x08"+over)
		b.readsNone(2)
		// Where they are: they are the first bytes of the new character, and are written over.
		b.wrote(2, 0x41424344)
		b.stands(2, 3, 3)
		b.has("a", "\x00\x00\x00\x07\x00\x00\x00\x08ABCD")
		b.closed(2, 0, 3)
	}
	// One that appends, too, and from ahead of them right over them.
	b := begin(t, 100)
	b.laid("a", "abcdefg")
	b.opened("a", api.StreamAppend, true, 1)
	b.stands(1, 1, 1)
	b.wrote(1, 0x30313233, 0x34353637)
	b.has("a", "abcd01234567")
	b.laid("b", "abcdefg")
	b.opened("b", api.StreamBoth, true, 2)
	b.wrote(2, 0x41414141, 0x42424242)
	b.has("b", "AAAABBBB")
}

func TestWriteOfAsManyBytesAsMayBe(t *testing.T) {
	b := begin(t, 10)
	b.laid("other", "123")
	b.opened("a", api.StreamBoth, false, 1)
	b.notWritten(1, api.ErrFull, make([]uint32, 8)...)
	b.stands(1, 0, 0)
	b.wrote(1, 1, 2, 3, 4, 5, 6)
	b.notWritten(1, api.ErrFull, 7, 8)
	b.has("a", "\x01\x02\x03\x04\x05\x06")
	b.wrote(1, 7)
	b.notWritten(1, api.ErrFull, 8)
	b.wrote(1)
	b.stands(1, 7, 7)
	// What is written over takes no room.
	b.moved(1, 5, api.FromStart, 5)
	b.wrote(1, 50, 60)
	b.moved(1, 5, api.FromStart, 5)
	b.notWritten(1, api.ErrFull, 51, 61, 71)
	b.has("a", "\x01\x02\x03\x04\x05\x32\x3c")
	b.stands(1, 5, 7)
	// A file that becomes shorter makes room.
	b.laid("other", "12")
	b.wrote(1, 51, 61, 71)
	b.deleted("other", true)
	b.wrote(1, 81, 91)
	b.notWritten(1, api.ErrFull, 0)
	b.closed(1, 0, 14)
	b.opened("a", api.StreamWrite, false, 2)
	b.opened("b", api.StreamWrite, false, 3)
	b.wrote(3, make([]uint32, 10)...)
	b.notWritten(2, api.ErrFull, 0)
}

func TestWriteOfAsManyWideOnesAsMayBe(t *testing.T) {
	b := begin(t, 11)
	b.opened("a", api.StreamBoth, true, 1)
	b.notWritten(1, api.ErrFull, 1, 2, 3)
	b.wrote(1, 1, 2)
	b.notWritten(1, api.ErrFull, 3)
	b.stands(1, 2, 2)
	b.closed(1, 0, 2)
	// The bytes that are left over count, but not twice.
	for most := 6; most < 15; most++ {
		b := begin(t, most)
		b.laid("a", "abcdef")
		b.opened("a", api.StreamAppend, true, 1)
		want := api.ErrFull
		if most >= 8 {
			want = api.OK
		}
		b.notWritten(1, want, 0x41424344)
		b.moved(1, 0, api.FromStart, 0)
		b.wrote(1, 0x30313233)
	}
	none := begin(t, 0)
	none.opened("a", api.StreamBoth, true, 1)
	none.wrote(1)
	none.notWritten(1, api.ErrFull, 0)
}

func TestWriteOfAWholeShelf(t *testing.T) {
	s, _ := New(api.MaxShelf)
	for _, wide := range []bool{false, true} {
		n, e := s.Open("a", api.StreamWrite, wide)
		if e != api.OK {
			t.Fatal(e)
		}
		l := make([]uint32, api.MaxShelf)
		if wide {
			l = l[:api.MaxShelf/4]
		}
		for i := range l {
			l[i] = uint32(i % 251)
		}
		if e := s.Write(n, append(slices.Clone(l), 0)...); e != api.ErrFull || s.Total() != 0 {
			t.Errorf("one too many: %d, %d bytes in all", e, s.Total())
		}
		if e := s.Write(n, l...); e != api.OK || s.Total() != api.MaxShelf {
			t.Errorf("a whole shelf: %d, %d bytes in all", e, s.Total())
		}
		if e := s.Write(n, 0); e != api.ErrFull {
			t.Errorf("one more: %d", e)
		}
		if read, written, _, e := s.Close(n); read != 0 || int(written) != len(l) || e != api.OK {
			t.Errorf("Close = %d, %d, %d", read, written, e)
		}
		n, _ = s.Open("a", api.StreamRead, wide)
		if is, e := s.Line(n, greatest); !slices.Equal(is, l[:11]) || e != api.OK {
			t.Errorf("Line = %v, %d", is, e)
		}
		if e := s.Put("b", []byte{1}); e != api.ErrFull {
			t.Errorf("Put = %d", e)
		}
		s.Close(n)
	}
}

func TestBufferWrittenBeyondItsSize(t *testing.T) {
	b := begin(t, 0)
	b.buffered([]uint32{7, 8, 9}, api.StreamBoth, false, 1)
	b.wrote(1)
	b.wrote(1, 1)
	b.stands(1, 1, 3)
	b.wrote(1, 300, 3, 4, 5)
	b.stands(1, 3, 3)
	b.readsNone(1)
	b.wrote(1, 6)
	b.stands(1, 3, 3)
	b.moved(1, -1, api.FromHere, 2)
	b.wrote(1, 255, 6)
	b.closed(1, 0, 8, 1, 63, 255)
	b.buffered(nil, api.StreamWrite, true, 2)
	b.wrote(2, 1, 2, 3)
	b.stands(2, 0, 0)
	b.closed(2, 0, 3)
	l := make([]uint32, 4096)
	b.buffered(l, api.StreamWrite, true, 3)
	for i := range l {
		l[i] = uint32(i) << 20
	}
	b.wrote(3, append(slices.Clone(l), 1, 2, 3)...)
	b.stands(3, 4096, 4096)
	b.closed(3, 0, 4099, l...)
}

func TestWriteErrors(t *testing.T) {
	b := begin(t, 3)
	b.laid("a", "abc")
	b.opened("a", api.StreamRead, false, 1)
	b.buffered([]uint32{5}, api.StreamRead, false, 2)
	for _, l := range [][]uint32{nil, {1}, make([]uint32, 9)} {
		// A stream that does not write, though there is no room.
		b.notWritten(1, api.ErrArg, l...)
		b.notWritten(2, api.ErrArg, l...)
		for _, stream := range numbers(5) {
			if stream != 1 && stream != 2 {
				b.notWritten(stream, api.ErrNone, l...)
			}
		}
	}
	b.closed(1, 0, 0)
	b.closed(2, 0, 0, 5)
	b.notWritten(1, api.ErrNone, 1)
	b.notWritten(2, api.ErrNone, 1)
}

// P15.4

func TestReadAtTheSize(t *testing.T) {
	b := begin(t, 100)
	b.laid("a", "\xff\x00")
	b.opened("a", api.StreamBoth, false, 1)
	b.reads(1, 255, 0)
	for range 3 {
		b.readsNone(1)
		b.lines(1, 5)
	}
	b.stands(1, 2, 2)
	b.wrote(1, 10)
	b.readsNone(1)
	b.moved(1, 2, api.FromStart, 2)
	b.reads(1, 10)
	b.closed(1, 3, 1)
	b.buffered([]uint32{top, 0}, api.StreamRead, true, 2)
	b.reads(2, top, 0)
	b.readsNone(2)
	b.closed(2, 2, 0, top, 0)
	b.buffered(nil, api.StreamRead, true, 3)
	b.readsNone(3)
	b.closed(3, 0, 0)
}

func TestLines(t *testing.T) {
	for _, wide := range []bool{false, true} {
		for _, onFile := range []bool{false, true} {
			b := begin(t, 1000)
			l := []uint32{'o', 'n', 'e', 10, 10, 't', 'w', 'o', 10, 'e', 'n', 'd'}
			if onFile {
				b.opened("a", api.StreamWrite, wide, 1)
				b.wrote(1, l...)
				b.closed(1, 0, 12)
				b.opened("a", api.StreamRead, wide, 2)
			} else {
				b.buffered(nil, api.StreamRead, false, 1)
				b.buffered(l, api.StreamBoth, wide, 2)
			}
			b.lines(2, 0)
			b.lines(2, -1)
			b.lines(2, least)
			b.stands(2, 0, 12)
			b.lines(2, 9, 'o', 'n', 'e', 10)
			b.lines(2, 9, 10)
			b.lines(2, 2, 't', 'w')
			b.lines(2, 2, 'o', 10)
			b.lines(2, 0)
			b.lines(2, greatest, 'e', 'n', 'd')
			b.lines(2, greatest)
			b.moved(2, 0, api.FromStart, 0)
			b.lines(2, 3, 'o', 'n', 'e')
			b.lines(2, 1, 10)
			b.lines(2, 1, 10)
			b.lines(2, 4, 't', 'w', 'o', 10)
			b.lines(2, 3, 'e', 'n', 'd')
			b.lines(2, 1)
			if onFile {
				b.closed(2, 24, 0)
			} else {
				b.closed(2, 24, 0, l...)
			}
		}
	}
	// What only looks like a 10 ends no line.
	b := begin(t, 100)
	b.buffered([]uint32{266, 10 << 8, 10 << 24, 1<<31 + 10, 10, 1}, api.StreamRead, true, 1)
	b.lines(1, 9, 266, 10<<8, 10<<24, 1<<31+10, 10)
	b.laid("a", "\x00\x00\x0a\x0a\x0a\x00\x00\x00\x00\x00\x00\x0a\x00\x00\x00\x0b")
	b.opened("a", api.StreamRead, true, 2)
	b.lines(2, 9, 0x0a0a, 0x0a000000, 10)
}

func TestReadErrors(t *testing.T) {
	b := begin(t, 100)
	b.opened("a", api.StreamWrite, false, 1)
	b.opened("b", api.StreamAppend, true, 2)
	b.buffered([]uint32{5}, api.StreamWrite, false, 3)
	b.wrote(1, 65, 66)
	b.moved(1, 0, api.FromStart, 0)
	for _, stream := range []int{1, 2, 3} {
		b.notRead(stream, api.ErrArg)
	}
	for _, stream := range numbers(5) {
		if stream < 1 || stream > 3 {
			b.notRead(stream, api.ErrNone)
		}
	}
	b.closed(1, 0, 2)
	b.closed(2, 0, 0)
	b.closed(3, 0, 0, 5)
	for stream := 1; stream <= 3; stream++ {
		b.notRead(stream, api.ErrNone)
	}
}

// P15.5

func TestSeek(t *testing.T) {
	b := begin(t, 100)
	b.laid("a", "0123456789ab\xff")
	b.buffered(make([]uint32, 13), api.StreamWrite, false, 1)
	b.opened("a", api.StreamBoth, false, 2)
	for stream := 1; stream <= 2; stream++ {
		b.moved(stream, 5, api.FromStart, 5)
		b.moved(stream, 13, api.FromStart, 13)
		b.moved(stream, 12, api.FromStart, 12)
		b.moved(stream, 14, api.FromStart, 13)
		b.moved(stream, -1, api.FromStart, 0)
		b.moved(stream, 4, api.FromHere, 4)
		b.moved(stream, 0, api.FromHere, 4)
		b.moved(stream, 4, api.FromHere, 8)
		b.moved(stream, -3, api.FromHere, 5)
		b.moved(stream, 8, api.FromHere, 13)
		b.moved(stream, 1, api.FromHere, 13)
		b.moved(stream, -13, api.FromHere, 0)
		b.moved(stream, -1, api.FromHere, 0)
		b.moved(stream, 14, api.FromHere, 13)
		b.moved(stream, 0, api.FromEnd, 13)
		b.moved(stream, -1, api.FromEnd, 12)
		b.moved(stream, 1, api.FromEnd, 13)
		b.moved(stream, -13, api.FromEnd, 0)
		b.moved(stream, -14, api.FromEnd, 0)
	}
	b.moved(2, -2, api.FromEnd, 11)
	b.reads(2, 'b', 255)
	b.closed(2, 2, 0)
	// A wide one's places are characters, not bytes.
	b.opened("a", api.StreamRead, true, 3)
	b.moved(3, -1, api.FromEnd, 2)
	b.reads(3, 0x38396162)
	b.moved(3, 1, api.FromStart, 1)
	b.reads(3, 0x34353637)
	b.moved(3, 4, api.FromStart, 3)
}

func TestSeekOfVeryGreatAndVerySmallPlaces(t *testing.T) {
	b := begin(t, 100)
	b.laid("a", "0123456789")
	b.laid("none", "")
	b.opened("a", api.StreamRead, false, 1)
	b.opened("none", api.StreamRead, true, 2)
	b.buffered(make([]uint32, 10), api.StreamRead, false, 3)
	for _, stream := range []int{1, 2, 3} {
		_, size, _ := b.s.Tell(stream)
		for _, from := range []int{0, 1, 2} {
			for start := range size + 1 {
				for _, place := range []int{greatest, greatest - 1, greatest - 9, greatest - 10, greatest - 11, 1 << 62, 1 << 32, 1<<32 + 1, 1 << 31, 11} {
					b.moved(stream, start, api.FromStart, start)
					b.moved(stream, place, from, size)
				}
				for _, place := range []int{least, least + 1, least + 9, least + 10, least + 11, -1 << 62, -1 << 32, -1<<32 + 1, -1 << 31, -11} {
					b.moved(stream, start, api.FromStart, start)
					b.moved(stream, place, from, 0)
				}
			}
		}
	}
}

func TestSeekErrors(t *testing.T) {
	b := begin(t, 100)
	b.laid("a", "0123456789")
	b.opened("a", api.StreamRead, false, 1)
	b.moved(1, 3, api.FromStart, 3)
	for _, from := range append(wrongFroms(), 0, 1, 2) {
		for _, place := range []int{0, 1, -1, least, greatest} {
			// A stream that is not there, ahead of a from that is none.
			for _, stream := range []int{0, -1, -2, 2, 3, least, greatest} {
				if e := b.seek(stream, place, from); e != api.ErrNone {
					t.Errorf("Seek(%d, %d, %d) = %d", stream, place, from, e)
				}
			}
			if from >= 0 && from <= 2 {
				continue
			}
			if e := b.seek(1, place, from); e != api.ErrArg {
				t.Errorf("Seek(1, %d, %d) = %d", place, from, e)
			}
			b.stands(1, 3, 10)
		}
	}
}

func TestTell(t *testing.T) {
	b := begin(t, 100)
	for _, stream := range numbers(3) {
		if place, size, e := b.s.Tell(stream); place != 0 || size != 0 || e != api.ErrNone {
			t.Errorf("Tell(%d) = %d, %d, %d", stream, place, size, e)
		}
	}
	for left := range 9 {
		b.laid("a", "01234567"[:left])
		n, _ := b.open("a", api.StreamRead, true)
		b.stands(n, 0, left/4)
		m, _ := b.open("a", api.StreamRead, false)
		b.stands(m, 0, left)
		b.close(n)
		b.close(m)
	}
	b.opened("b", api.StreamBoth, true, 19)
	for i := range 5 {
		b.wrote(19, 1)
		b.stands(19, i+1, i+1)
	}
}

// P15.6

func TestWhatCloseCounts(t *testing.T) {
	b := begin(t, 10)
	b.laid("a", "01234567")
	b.opened("a", api.StreamBoth, false, 1)
	b.reads(1, '0', '1')
	b.lines(1, 3, '2', '3', '4')
	b.lines(1, 0)
	b.wrote(1, 5, 6, 7)
	b.readsNone(1)
	b.wrote(1)
	b.notWritten(1, api.ErrFull, 8, 9, 10)
	b.wrote(1, 8, 9)
	b.notWritten(1, api.ErrFull, 10)
	// What is read again, and written again, counts again.
	b.moved(1, 0, api.FromStart, 0)
	b.reads(1, '0')
	b.wrote(1, 1)
	b.closed(1, 6, 6)
	b.buffered([]uint32{1, 2, 3}, api.StreamBoth, false, 2)
	b.reads(2, 1)
	b.wrote(2, 300, 301, 302, 303)
	b.readsNone(2)
	b.lines(2, 5)
	b.wrote(2, 304)
	b.closed(2, 1, 5, 1, 63, 63)
}

func TestCloseOfABufferTellsAll(t *testing.T) {
	b := begin(t, 0)
	for i, mode := range []int{api.StreamWrite, api.StreamRead, api.StreamBoth} {
		b.buffered([]uint32{4, 5, 6}, mode, false, i+1)
		b.moved(i+1, 2, api.FromStart, 2)
		b.closed(i+1, 0, 0, 4, 5, 6)
	}
}

func TestCountsAreModulo2To32(t *testing.T) {
	b := begin(t, 100)
	n, e := b.s.Buffer([]uint32{1, 2, 3}, api.StreamBoth, true)
	if e != api.OK {
		t.Fatal(e)
	}
	// As if so many had been read and written: that many is more than a test can do.
	o, _ := b.s.at(n)
	o.read, o.written = top, top-1
	b.s.Read(n)
	b.s.Read(n)
	b.s.Write(n, 1, 2, 3, 4, 5)
	if read, written, l, e := b.s.Close(n); read != 1 || written != 3 || !slices.Equal(l, []uint32{1, 2, 1}) || e != api.OK {
		t.Errorf("Close = %d, %d, %v, %d", read, written, l, e)
	}
}

func TestCloseErrors(t *testing.T) {
	b := begin(t, 100)
	b.opened("a", api.StreamWrite, false, 1)
	b.buffered(nil, api.StreamRead, false, 2)
	for _, stream := range numbers(4) {
		if stream == 1 || stream == 2 {
			continue
		}
		if e := b.close(stream); e != api.ErrNone {
			t.Errorf("Close(%d) = %d", stream, e)
		}
	}
	for _, stream := range []int{2, 1} {
		b.closed(stream, 0, 0)
		if e := b.close(stream); e != api.ErrNone {
			t.Errorf("Close(%d) again = %d", stream, e)
		}
		if place, size, e := b.s.Tell(stream); place != 0 || size != 0 || e != api.ErrNone {
			t.Errorf("Tell(%d) = %d, %d, %d", stream, place, size, e)
		}
		b.notRead(stream, api.ErrNone)
		b.notWritten(stream, api.ErrNone, 1)
	}
	b.has("a", "")
}

func TestNumbersThatNoLaterStreamHas(t *testing.T) {
	b := begin(t, 100)
	want := 1
	for round := range 40 {
		b.opened("a", api.StreamWrite, false, want)
		b.buffered(nil, api.StreamRead, true, want+1)
		// What is refused takes no number.
		b.notOpened("a", api.StreamRead, api.ErrThere)
		b.notOpened("", api.StreamRead, api.ErrArg)
		b.notBuffered(4097, api.StreamRead, api.ErrArg)
		if !slices.Equal(b.s.Streams(), []int{want, want + 1}) {
			t.Fatalf("streams %v", b.s.Streams())
		}
		b.closed(want+round%2, 0, 0)
		b.closed(want+1-round%2, 0, 0)
		want += 2
	}
}

func TestManyStreams(t *testing.T) {
	b := begin(t, 1000)
	b.laid("a", "abc")
	for i := range 32 {
		b.opened("a", api.StreamRead, false, 2*i+1)
		b.buffered([]uint32{uint32(i)}, api.StreamBoth, false, 2*i+2)
	}
	if len(b.s.Streams()) != 64 || !slices.IsSorted(b.s.Streams()) {
		t.Errorf("streams %v", b.s.Streams())
	}
	b.notOpened("a", api.StreamRead, api.ErrMany)
	b.notOpened("b", api.StreamWrite, api.ErrMany)
	b.notBuffered(1, api.StreamRead, api.ErrMany)
	for i := range 32 {
		b.reads(2*i+1, 'a')
		b.reads(2*i+2, uint32(i))
	}
	for i := range 32 {
		b.closed(64-2*i, 1, 0, uint32(31-i))
	}
	b.opened("b", api.StreamWrite, false, 65)
	if l := b.s.Streams(); len(l) != 33 || l[0] != 1 || l[31] != 63 || l[32] != 65 {
		t.Errorf("streams %v", l)
	}
}

// Memory

// spoil: writes over a list, its spare room too.
func spoil[T any](l []T, with T) {
	l = l[:cap(l)]
	for i := range l {
		l[i] = with
	}
}

// roomy: l with room to spare.
func roomy[T any](l ...T) []T {
	return append(make([]T, 0, len(l)+20), l...)
}

func TestWhatIsHandedInMayBeChanged(t *testing.T) {
	b := begin(t, 100)
	data := roomy([]byte("abc")...)
	b.m.put("a", data)
	b.s.Put("a", data)
	spoil(data, '!')
	b.expectModel("bytes that are written over")
	for i, wide := range []bool{false, true} {
		l := roomy[uint32](1, 2, 3)
		b.m.buffer(l, api.StreamBoth, wide)
		b.s.Buffer(l, api.StreamBoth, wide)
		spoil(l, 77)
		b.lines(i+1, 9, 1, 2, 3)
		b.moved(i+1, 0, api.FromStart, 0)
		l = roomy[uint32](7, 8, 9)
		b.m.write(i+1, l)
		b.s.Write(i+1, l...)
		spoil(l, 77)
		b.closed(i+1, 3, 3, 7, 8, 9)
	}
	b.opened("b", api.StreamWrite, false, 3)
	l := roomy[uint32]('x', 'y')
	b.m.write(3, l)
	b.s.Write(3, l...)
	spoil(l, 77)
	b.has("b", "xy")
}

func TestWhatIsHandedInStays(t *testing.T) {
	b := begin(t, 100)
	data, l := roomy[byte](1, 2, 3), roomy[uint32](256, 2, 3)
	spoil(data[3:], 5)
	spoil(l[3:], 5)
	wasData, wasL := slices.Clone(data[:cap(data)]), slices.Clone(l[:cap(l)])
	b.s.Put("a", data)
	n, _ := b.s.Open("a", api.StreamAppend, false)
	b.s.Write(n, l...)
	m, _ := b.s.Buffer(l, api.StreamBoth, false)
	b.s.Write(m, 9, 9, 9, 9, 9)
	b.s.Write(n, 9, 9, 9, 9, 9)
	b.s.Close(m)
	if !bytes.Equal(data[:cap(data)], wasData) || !slices.Equal(l[:cap(l)], wasL) {
		t.Errorf("what was handed in has changed: %v, %v", data[:cap(data)], l[:cap(l)])
	}
}

func TestAnswersAreNewMemory(t *testing.T) {
	b := begin(t, 100)
	b.laid("a", "abc")
	b.laid("b", "")
	b.opened("b", api.StreamBoth, false, 1)
	for i := range 20 {
		b.wrote(1, uint32(i))
	}
	for _, name := range []string{"a", "b"} {
		first, _ := b.s.Get(name)
		second, _ := b.s.Get(name)
		was := bytes.Clone(second)
		spoil(first, '!')
		b.expectModel("bytes that are written over")
		if !bytes.Equal(second, was) {
			t.Errorf("two answers share memory")
		}
		spoil(second, '!')
	}
	names, streams := b.s.Names(), b.s.Streams()
	spoil(names, "zz")
	spoil(streams, 77)
	b.expectModel("names and numbers that are written over")
	got, _ := b.s.Get("b")
	b.wrote(1, 200)
	b.moved(1, 0, api.FromStart, 0)
	b.wrote(1, 201, 202)
	if len(got) != 20 || got[0] != 0 || got[1] != 1 {
		t.Errorf("what was told has changed: %v", got)
	}
	b.buffered([]uint32{1, 2, 3}, api.StreamBoth, true, 2)
	l, _ := b.line(2, 2)
	spoil(l, 77)
	b.moved(2, 0, api.FromStart, 0)
	b.reads(2, 1, 2, 3)
	b.m.close(2)
	_, _, first, _ := b.s.Close(2)
	b.buffered([]uint32{4, 5, 6}, api.StreamBoth, true, 3)
	spoil(first, 77)
	b.closed(3, 0, 0, 4, 5, 6)
}

// On a nil shelf

func TestNil(t *testing.T) {
	var s *Shelf
	for _, name := range append(someNames(), wrongNames()...) {
		if e := s.Put(name, []byte{1}); e != api.ErrNil {
			t.Errorf("Put(%q) = %d", name, e)
		}
		if b, ok := s.Get(name); len(b) != 0 || ok {
			t.Errorf("Get(%q) = %v, %t", name, b, ok)
		}
		if s.Delete(name) {
			t.Errorf("Delete(%q)", name)
		}
		for _, mode := range append(modes(), wrongModes()...) {
			if n, e := s.Open(name, mode, true); n != 0 || e != api.ErrNil {
				t.Errorf("Open(%q, %d) = %d, %d", name, mode, n, e)
			}
		}
	}
	for _, mode := range append(modes(), wrongModes()...) {
		for _, n := range []int{0, 1, 4097} {
			if n, e := s.Buffer(make([]uint32, n), mode, false); n != 0 || e != api.ErrNil {
				t.Errorf("Buffer(%d) = %d, %d", mode, n, e)
			}
		}
	}
	for _, stream := range numbers(3) {
		nilStream(t, s, stream)
	}
	if len(s.Names()) != 0 || s.Total() != 0 || len(s.Streams()) != 0 {
		t.Errorf("%q, %d, %v", s.Names(), s.Total(), s.Streams())
	}
}

// nilStream: what a nil shelf answers of a stream.
func nilStream(t *testing.T, s *Shelf, stream int) {
	t.Helper()
	for _, l := range [][]uint32{nil, {1}, {1, 2}} {
		if e := s.Write(stream, l...); e != api.ErrNil {
			t.Errorf("Write(%d, %v) = %d", stream, l, e)
		}
	}
	if c, ok, e := s.Read(stream); c != 0 || ok || e != api.ErrNil {
		t.Errorf("Read(%d) = %d, %t, %d", stream, c, ok, e)
	}
	for _, most := range []int{least, 0, 5, greatest} {
		if l, e := s.Line(stream, most); len(l) != 0 || e != api.ErrNil {
			t.Errorf("Line(%d, %d) = %v, %d", stream, most, l, e)
		}
	}
	for _, from := range append(wrongFroms(), 0, 1, 2) {
		if e := s.Seek(stream, 0, from); e != api.ErrNil {
			t.Errorf("Seek(%d, 0, %d) = %d", stream, from, e)
		}
	}
	if place, size, e := s.Tell(stream); place != 0 || size != 0 || e != api.ErrNil {
		t.Errorf("Tell(%d) = %d, %d, %d", stream, place, size, e)
	}
	if read, written, l, e := s.Close(stream); read != 0 || written != 0 || len(l) != 0 || e != api.ErrNil {
		t.Errorf("Close(%d) = %d, %d, %v, %d", stream, read, written, l, e)
	}
}

func TestNoCallPanicsOnTheZeroShelf(t *testing.T) {
	r := rand.New(rand.NewSource(150))
	for range 50 {
		var s Shelf
		for range 60 {
			name, stream := someName(r), r.Intn(9)-1
			switch r.Intn(3) {
			case 0:
				s.Put(name, make([]byte, r.Intn(3)))
			case 1:
				s.Open(name, someMode(r), r.Intn(2) == 0)
			case 2:
				s.Buffer(someText(r, r.Intn(3)), someMode(r), r.Intn(2) == 0)
			}
			s.Write(stream, someText(r, r.Intn(3))...)
			s.Read(stream)
			s.Line(stream, r.Intn(4))
			s.Seek(stream, r.Intn(9)-4, r.Intn(4))
			tell(&s, 9, nil)
			if r.Intn(4) == 0 {
				s.Close(stream)
				s.Delete(name)
			}
		}
	}
}

// P15.1 to P15.6, by chance

func TestByChance(t *testing.T) {
	r := rand.New(rand.NewSource(15))
	for range 500 {
		someShelf(t, r, 120)
	}
}

func TestByChanceOnAFullShelf(t *testing.T) {
	r := rand.New(rand.NewSource(151))
	for range 20 {
		b := filled(t, 62, 200)
		for len(b.s.Streams()) < 62 {
			b.buffer(someText(r, r.Intn(5)), someOf(r, 1, 2, 3), r.Intn(2) == 0)
		}
		for range 80 {
			b.someCall(r)
		}
	}
}

func TestShelvesAreApart(t *testing.T) {
	r := rand.New(rand.NewSource(152))
	for range 30 {
		one, other := someShelf(t, r, 10), someShelf(t, r, 10)
		for range 60 {
			someOf(r, one, other).someCall(r)
			one.expectModel("one of two")
			other.expectModel("the other of two")
		}
	}
}
