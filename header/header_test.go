package header

import (
	"bytes"
	"encoding/binary"
	"math/rand"
	"testing"

	"grotto/api"
)

// P7.1

func TestLayout(t *testing.T) {
	for _, c := range []struct {
		what  string
		h     api.Header
		bytes string
	}{
		{"the first example", api.Header{Version: 0x30103, RamStart: 256, ExtStart: 256, EndMem: 512, StackSize: 256, Start: 36, Sum: 0x476f7b93},
			"Glul\x00\x03\x01\x03\x00\x00\x01\x00\x00\x00\x01\x00\x00\x00\x02\x00\x00\x00\x01\x00\x00\x00\x00\x24\x00\x00\x00\x00\x47\x6f\x7b\x93" + zeros(220)},
		{"numbers that are all unlike", api.Header{Version: 0x20304, RamStart: 0x100, ExtStart: 0x200, EndMem: 0xa0300, StackSize: 0xb400, Start: 0x90807, Table: 0x60504, Sum: 0x48083f7b},
			"Glul\x00\x02\x03\x04\x00\x00\x01\x00\x00\x00\x02\x00\x00\x0a\x03\x00\x00\x00\xb4\x00\x00\x09\x08\x07\x00\x06\x05\x04\x48\x08\x3f\x7b" + zeros(472) + "\x00\x80\x00\x00"},
	} {
		b := []byte(c.bytes)
		expectHeader(t, c.what, b, c.h)
		if d, e := Make(c.h, b[36:]); e != api.OK || !bytes.Equal(d, b) {
			t.Errorf("%s: Make = %x, %d; not %x", c.what, d, e, b)
		}
	}
}

// P7.2

func TestParseBounds(t *testing.T) {
	h, rest := small()
	const top = 1<<32 - 1
	for _, c := range []struct {
		place int
		e     api.Errno
		good  []uint32
		bad   []uint32
	}{
		{4, api.ErrVersion, []uint32{0x20000, 0x20001, 0x2ffff, 0x30000, 0x30103, 0x301fe, 0x301ff}, []uint32{0, 2, 3, 0x10000, 0x1ffff, 0x30200, 0x30201, 0x40000, 0x1020000, 0x80030103, top}},
		{8, api.ErrMap, []uint32{256, 512, 768}, []uint32{0, 1, 36, 128, 255, 257, 511, 513, 640, 767, 769, 1<<31 + 1, top}},
		{12, api.ErrMap, []uint32{768}, []uint32{0, 1, 36, 256, 511, 512, 513, 732, 767, 769, 804, 1024, 1280, 1<<16 + 768, 1<<24 + 768, 1<<31 + 768, top}},
		{16, api.ErrMap, []uint32{768, 1024, 1280, 65536, 1048320, 1048576}, []uint32{0, 255, 256, 512, 767, 769, 1023, 1025, 1152, 1048575, 1048577, 1048832, 1 << 21, 1<<31 + 1024, top - 255, top}},
		{20, api.ErrStack, []uint32{256, 512, 768, 65280, 65536}, []uint32{0, 1, 128, 255, 257, 511, 513, 65535, 65537, 65792, 1 << 17, 1048576, 1 << 31, 1<<31 + 256, top - 255, top}},
		{24, api.ErrMap, []uint32{36, 37, 255, 256, 511, 512, 767, 768, 1022, 1023}, []uint32{0, 1, 32, 35, 1024, 1025, 1280, 1048576, 1<<31 + 36, top}},
		{28, api.ErrMap, []uint32{0, 1, 32, 35, 36, 255, 256, 512, 767, 768, 1022, 1023}, []uint32{1024, 1025, 1280, 1048576, 1 << 31, top}},
	} {
		for _, x := range c.good {
			game := with(h, c.place, x)
			expectMade(t, "a bound that is kept", game, rest)
		}
		for _, x := range c.bad {
			game := with(h, c.place, x)
			expectFault(t, "a bound that is passed", summed(laid(game, rest)), c.e, c.place)
			expectError(t, "a bound that is passed", game, rest, c.e)
		}
	}
}

func TestParseMapTogether(t *testing.T) {
	// Each of these numbers may be, but not beside the others.
	for _, c := range []struct {
		what          string
		ram, ext, end uint32
		size          int
		e             api.Errno
		at            int
	}{
		{"one page", 256, 256, 256, 256, api.OK, 36},
		{"all alike", 768, 768, 768, 768, api.OK, 36},
		{"RamStart and ExtStart alike", 768, 768, 1024, 768, api.OK, 36},
		{"ExtStart and EndMem alike", 256, 768, 768, 768, api.OK, 36},
		{"all of memory", 256, 1048576, 1048576, 1048576, api.OK, 36},
		{"all of memory, nothing of it written", 1048576, 1048576, 1048576, 1048576, api.OK, 36},
		{"a page short of all", 1048320, 1048320, 1048576, 1048320, api.OK, 36},
		{"RamStart above ExtStart", 1024, 768, 1024, 768, api.ErrMap, 12},
		{"RamStart above all", 1 << 31, 768, 1024, 768, api.ErrMap, 12},
		{"EndMem below ExtStart", 256, 768, 512, 768, api.ErrMap, 16},
		{"EndMem a page too far", 256, 1048576, 1048832, 1048576, api.ErrMap, 16},
		{"no whole pages, as long as it says", 256, 300, 512, 300, api.ErrMap, 12},
		{"a byte less than pages, as long as it says", 256, 767, 1024, 767, api.ErrMap, 12},
		{"a byte more than pages, as long as it says", 256, 769, 1024, 769, api.ErrMap, 12},
		{"longer than it says", 256, 512, 1024, 768, api.ErrMap, 12},
		{"a byte longer than it says", 256, 512, 1024, 513, api.ErrMap, 12},
		{"shorter than it says", 256, 768, 1024, 512, api.ErrMap, 12},
		{"a byte shorter than it says", 256, 768, 1024, 767, api.ErrMap, 12},
		{"a header alone", 256, 256, 256, 36, api.ErrMap, 12},
		{"a header alone, as long as it says", 256, 36, 256, 36, api.ErrMap, 12},
		{"a header alone, all of it written", 36, 36, 256, 36, api.ErrMap, 8},
		{"a header alone, of nothing", 0, 0, 0, 36, api.ErrMap, 8},
	} {
		h := api.Header{Version: api.MaxVersion, RamStart: c.ram, ExtStart: c.ext, EndMem: c.end, StackSize: 256, Start: 36}
		rest := bytes.Repeat([]byte{0xa5}, c.size-36)
		if c.e == api.OK {
			expectMade(t, c.what, h, rest)
			continue
		}
		expectFault(t, c.what, summed(laid(h, rest)), c.e, c.at)
		expectError(t, c.what, h, rest, c.e)
	}
}

func TestParseStartAndTableByEndMem(t *testing.T) {
	// They are held against EndMem, wherever the game's own bytes end.
	for _, end := range []uint32{768, 1024, 65536, api.MaxMem} {
		h, rest := small()
		h.EndMem = end
		for place := 24; place <= 28; place += 4 {
			expectMade(t, "the last byte", with(h, place, end-1), rest)
			expectFault(t, "the byte behind", summed(laid(with(h, place, end), rest)), api.ErrMap, place)
		}
	}
}

func TestParseLong(t *testing.T) {
	h := api.Header{Version: api.MinVersion, RamStart: 256, ExtStart: api.MaxMem, EndMem: api.MaxMem, StackSize: 256, Start: 36}
	most := expectMade(t, "just MaxMem", h, make([]byte, api.MaxMem-36))
	for _, more := range []int{1, 2, 4, 255, 256, api.MaxMem} {
		long := append(bytes.Clone(most), make([]byte, more)...)
		expectFault(t, "long", long, api.ErrLong, 0)
		binary.BigEndian.PutUint32(long[12:], uint32(len(long)))
		binary.BigEndian.PutUint32(long[16:], uint32(len(long)))
		expectFault(t, "long, as it says", summed(long), api.ErrLong, 0)
		expectFault(t, "long, of other bytes", make([]byte, len(long)), api.ErrLong, 0)
	}
	expectFault(t, "just so long, of other bytes", make([]byte, api.MaxMem), api.ErrMagic, 0)
}

func TestParseMagic(t *testing.T) {
	h, rest := small()
	whole := summed(laid(h, rest))
	for i := range 4 {
		for bit := range 8 {
			b := bytes.Clone(whole)
			b[i] ^= 1 << bit
			expectFault(t, "a letter turned", summed(b), api.ErrMagic, 0)
			// As far as there are any: the letter must be there to be wrong.
			for n := range 41 {
				if n > i {
					expectFault(t, "a letter turned, short", b[:n], api.ErrMagic, 0)
				} else {
					expectFault(t, "a letter that is not there", b[:n], api.ErrShort, n)
				}
			}
		}
	}
	for _, s := range []string{"g", "l", "\x00", "GL", "gl", "Gg", "GlU", "Gl ", "Glu\x00", "GLUL", "FORM", "lulG", " Glul"} {
		expectFault(t, s, []byte(s), api.ErrMagic, 0)
	}
}

func TestParseShort(t *testing.T) {
	h, rest := small()
	whole := summed(laid(h, rest))
	expectFault(t, "nothing", nil, api.ErrShort, 0)
	expectFault(t, "nothing, with room", make([]byte, 0, 64), api.ErrShort, 0)
	for n := range 36 {
		expectFault(t, "a beginning", whole[:n], api.ErrShort, n)
	}
	for n := 36; n < len(whole); n++ {
		expectFault(t, "a beginning with its header", whole[:n], api.ErrMap, 12)
	}
	expectHeader(t, "whole", whole, with(h, 32, sumOf(whole)))
}

func TestParseSum(t *testing.T) {
	h, rest := small()
	whole := summed(laid(h, rest))
	right := sumOf(whole)
	for _, x := range []uint32{0, 1, right + 1, right - 1, right ^ 1<<31, right + right, ^right, -right} {
		expectFault(t, "another Sum", laid(with(h, 32, x), rest), api.ErrSum, 32)
	}
	for i := 36; i < len(whole); i++ {
		b := bytes.Clone(whole)
		b[i]++
		expectFault(t, "another byte", b, api.ErrSum, 32)
	}
	// Two faults that make up for each other are not seen.
	b := bytes.Clone(whole)
	b[40], b[44] = b[44], b[40]
	expectHeader(t, "two bytes changed about", b, with(h, 32, right))
}

// fault is a way to spoil a game, with what Parse says of it.
type fault struct {
	what  string
	spoil func(b []byte) []byte
	e     api.Errno
	at    int
}

// faults: those of P7.2, in its order; none brings one that stands ahead of it.
func faults() []fault {
	number := func(place int, x uint32) func(b []byte) []byte {
		return func(b []byte) []byte {
			if len(b) >= place+4 {
				binary.BigEndian.PutUint32(b[place:], x)
			}
			return b
		}
	}
	return []fault{
		{"long", func(b []byte) []byte { return append(b, make([]byte, api.MaxMem)...) }, api.ErrLong, 0},
		{"magic", func(b []byte) []byte { b[3] = 'L'; return b }, api.ErrMagic, 0},
		{"short", func(b []byte) []byte { return b[:35] }, api.ErrShort, 35},
		{"version", number(4, 0x40000), api.ErrVersion, 4},
		{"ram", number(8, 128), api.ErrMap, 8},
		{"ext", number(12, 512), api.ErrMap, 12},
		{"end", number(16, 2<<20), api.ErrMap, 16},
		{"stack", number(20, 0), api.ErrStack, 20},
		{"start", number(24, 4<<20), api.ErrMap, 24},
		{"table", number(28, 4<<20), api.ErrMap, 28},
		{"sum", number(32, 0x12345678), api.ErrSum, 32},
	}
}

func TestParseFirstFault(t *testing.T) {
	h, rest := small()
	whole := summed(laid(h, rest))
	l := faults()
	for i, first := range l {
		expectFault(t, first.what, first.spoil(bytes.Clone(whole)), first.e, first.at)
		for _, second := range l[i+1:] {
			b := first.spoil(second.spoil(bytes.Clone(whole)))
			expectFault(t, first.what+" and "+second.what, b, first.e, first.at)
			// With a Sum that fits what the others say, it has no part in this.
			if first.what != "sum" && second.what != "sum" {
				expectFault(t, first.what+" and "+second.what+", summed", summed(b), first.e, first.at)
			}
		}
	}
}

func TestParseByChance(t *testing.T) {
	r := rand.New(rand.NewSource(7))
	type seen struct {
		e  api.Errno
		at int
	}
	count := map[seen]int{}
	for range 100000 {
		h, rest := someGame(r, 3)
		for range r.Intn(3) {
			h = with(h, 4+4*r.Intn(7), near(r, h))
		}
		b := laid(h, rest)
		if r.Intn(8) != 0 {
			b = summed(b)
		}
		if r.Intn(8) == 0 {
			b[r.Intn(4)] ^= 0x20
		}
		if r.Intn(8) == 0 {
			b = b[:someOf(r, r.Intn(8), r.Intn(40), r.Intn(len(b)))]
		}
		wantH, wantE, wantAt := parseOf(b)
		at := wantAt
		if wantE == api.ErrShort {
			at = 0
		}
		count[seen{wantE, at}]++
		if h, e, at := Parse(b); h != wantH || e != wantE || at != wantAt {
			t.Fatalf("Parse(%x) = %v, %d at %d; not %v, %d at %d", b, h, e, at, wantH, wantE, wantAt)
		}
	}
	for _, s := range []seen{{api.OK, 36}, {api.ErrMagic, 0}, {api.ErrShort, 0}, {api.ErrVersion, 4}, {api.ErrMap, 8}, {api.ErrMap, 12}, {api.ErrMap, 16}, {api.ErrStack, 20}, {api.ErrMap, 24}, {api.ErrMap, 28}, {api.ErrSum, 32}} {
		if count[s] < 100 {
			t.Errorf("the answer %d at %d was seen %d times alone", s.e, s.at, count[s])
		}
	}
}

// P7.3

func TestSum(t *testing.T) {
	row := make([]byte, 64)
	for i := range row {
		row[i] = byte(i + 1)
	}
	for _, c := range []struct {
		what string
		b    []byte
		want uint32
	}{
		{"nothing", nil, 0},
		{"one byte", []byte{1}, 0},
		{"three bytes", []byte{1, 2, 3}, 0},
		{"a word", []byte{1, 2, 3, 4}, 0x01020304},
		{"a word and three bytes", []byte{1, 2, 3, 4, 5, 6, 7}, 0x01020304},
		{"two words", []byte{1, 2, 3, 4, 5, 6, 7, 8}, 0x06080a0c},
		{"wraps round to 0", []byte{0xff, 0xff, 0xff, 0xff, 0, 0, 0, 1}, 0},
		{"wraps round", []byte{0xff, 0xff, 0xff, 0xff, 0xff, 0xff, 0xff, 0xff}, 0xfffffffe},
		{"the highest bit twice", []byte{0x80, 0, 0, 0, 0x80, 0, 0, 7}, 7},
		{"eight words", row[:32], 0x78808890},
		{"eight words and three bytes", row[:35], 0x78808890},
		{"the word at 32 is there", row[:36], 0x78808890},
		{"the word at 32 and three bytes", row[:39], 0x78808890},
		{"the word behind it", row[:40], 0x9da6afb8},
		{"all", row, 0xd0dfeefc},
	} {
		if s := Sum(c.b); s != c.want {
			t.Errorf("%s: Sum = %#x, not %#x", c.what, s, c.want)
		}
	}
}

func TestSumByChance(t *testing.T) {
	r := rand.New(rand.NewSource(73))
	for n := range 400 {
		for range 4 {
			b := make([]byte, n)
			r.Read(b)
			if s := Sum(b); s != sumOf(b) {
				t.Fatalf("Sum(%x) = %#x, not %#x", b, s, sumOf(b))
			}
		}
	}
	// It is a sum of any bytes, of more than a game may have, too.
	for _, n := range []int{api.MaxMem, api.MaxMem + 1, api.MaxMem + 4, 3*api.MaxMem + 7} {
		b := make([]byte, n)
		r.Read(b)
		if s := Sum(b); s != sumOf(b) {
			t.Errorf("Sum of %d bytes = %#x, not %#x", n, s, sumOf(b))
		}
	}
}

func TestSumHangsOnWhichBytes(t *testing.T) {
	h, rest := small()
	for _, extra := range []int{0, 1, 2, 3} {
		b := append(laid(h, rest), make([]byte, extra)...)
		was := Sum(b)
		for i := range b {
			c := bytes.Clone(b)
			c[i] ^= 0x81
			aside := i/4 == 8 || i >= len(b)/4*4
			if (Sum(c) == was) != aside {
				t.Errorf("byte %d of %d: Sum goes from %#x to %#x", i, len(b), was, Sum(c))
			}
		}
	}
}

// P7.4

func TestMakeSumAside(t *testing.T) {
	h, rest := small()
	want := summed(laid(h, rest))
	for _, x := range []uint32{0, 1, 0x476f7b93, sumOf(want), 1 << 31, 1<<32 - 1} {
		if b := expectMade(t, "any Sum", with(h, 32, x), rest); !bytes.Equal(b, want) {
			t.Errorf("with the Sum %#x handed in another game is laid", x)
		}
	}
}

func TestMakeSize(t *testing.T) {
	h := api.Header{Version: 0x30103, RamStart: 256, EndMem: api.MaxMem, StackSize: 256, Start: 36}
	for _, pages := range []int{1, 2, 3, 255, 256, 257, 4095, 4096} {
		h.ExtStart = uint32(256 * pages)
		n := 256*pages - 36
		if b := expectMade(t, "whole pages", h, make([]byte, n)); len(b) != 256*pages {
			t.Errorf("a game of %d pages has %d bytes", pages, len(b))
		}
		expectError(t, "a byte too few", h, make([]byte, n-1), api.ErrMap)
		expectError(t, "the header not counted", h, make([]byte, min(256*pages, api.MaxMem-36-1)), api.ErrMap)
		expectError(t, "nothing behind", h, nil, api.ErrMap)
		if pages < 4096 {
			expectError(t, "a byte too much", h, make([]byte, n+1), api.ErrMap)
		} else {
			expectError(t, "a byte too much for any game", h, make([]byte, n+1), api.ErrLong)
		}
	}
}

func TestMakeLong(t *testing.T) {
	h := api.Header{Version: 0x30103, RamStart: 256, ExtStart: api.MaxMem, EndMem: api.MaxMem, StackSize: 256, Start: 36}
	for _, n := range []int{api.MaxMem - 35, api.MaxMem - 1, api.MaxMem, api.MaxMem + 1, 2 * api.MaxMem} {
		long := make([]byte, n)
		h.ExtStart = uint32(n + 36)
		expectError(t, "long, as it says", h, long, api.ErrLong)
		expectError(t, "long, and nothing else right", api.Header{}, long, api.ErrLong)
	}
}

func TestMakeFirstError(t *testing.T) {
	expectError(t, "nothing at all", api.Header{}, nil, api.ErrVersion)
	wrong := []uint32{0, 1, 1, 1, 1, 1 << 31, 1 << 31}
	errors := []api.Errno{api.ErrVersion, api.ErrMap, api.ErrMap, api.ErrMap, api.ErrStack, api.ErrMap, api.ErrMap}
	for i := range wrong {
		for j := i; j < len(wrong); j++ {
			h, rest := small()
			h = with(with(h, 4+4*i, wrong[i]), 4+4*j, wrong[j])
			expectError(t, "two faults", h, rest, errors[i])
		}
	}
}

func TestMakeByChance(t *testing.T) {
	r := rand.New(rand.NewSource(74))
	count := map[api.Errno]int{}
	for range 30000 {
		h, rest := someGame(r, 3)
		for range r.Intn(3) {
			h = with(h, 4+4*r.Intn(8), near(r, h))
		}
		if r.Intn(8) == 0 {
			rest = rest[:r.Intn(len(rest))]
		}
		want := summed(laid(h, rest))
		_, e, _ := parseOf(want)
		count[e]++
		if e != api.OK {
			expectError(t, "a game by chance", h, rest, e)
		} else {
			expectMade(t, "a game by chance", h, rest)
		}
	}
	for _, e := range []api.Errno{api.OK, api.ErrVersion, api.ErrMap, api.ErrStack} {
		if count[e] < 100 {
			t.Errorf("the error %d was seen %d times alone", e, count[e])
		}
	}
}

// Rules that hold everywhere: Memory

func TestNothingIsShared(t *testing.T) {
	h, rest := small()
	room := append(make([]byte, 0, 2*len(rest)+64), rest...)
	kept := bytes.Clone(room[:cap(room)])
	b, _ := Make(h, room)
	other, _ := Make(h, room)
	want := bytes.Clone(other)
	fill(b, 0xee)
	if !bytes.Equal(other, want) || !bytes.Equal(room[:cap(room)], kept) {
		t.Error("bytes that Make answers are shared, or what it was handed has changed")
	}
	fill(room, 0xdd)
	if !bytes.Equal(other, want) {
		t.Error("Make keeps what it was handed")
	}
	game := append(make([]byte, 0, 2*len(want)), want...)
	whole := bytes.Clone(game[:cap(game)])
	first, _, _ := Parse(game)
	second, _, _ := Parse(game)
	if first != second || Sum(game) != Sum(game) || !bytes.Equal(game[:cap(game)], whole) {
		t.Error("Parse or Sum change what they are handed, or tell another thing each time")
	}
}

// fill: all bytes of b, its spare room included, become c.
func fill(b []byte, c byte) {
	b = b[:cap(b)]
	for i := range b {
		b[i] = c
	}
}
