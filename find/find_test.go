package find

import (
	"bytes"
	"math/rand"
	"slices"
	"testing"

	"grotto/api"
	"grotto/memory"
)

// P13.1

func TestKeyOfANumber(t *testing.T) {
	m := holding(t, 9, 9)
	for _, other := range []uint32{0, 2, 4, 6, 8, top32 &^ 1} {
		s := api.Search{Key: 0xff828180, Options: other}
		for n, want := range map[uint32][]byte{1: {0x80}, 2: {0x81, 0x80}, 4: {0xff, 0x82, 0x81, 0x80}} {
			s.KeySize = n
			expectKey(t, m, s, want, api.OK)
		}
		s.Key = 0
		for _, n := range []uint32{1, 2, 4} {
			s.KeySize = n
			expectKey(t, m, s, make([]byte, n), api.OK)
		}
		for _, n := range []uint32{0, 3, 5, 6, 7, 8, 255, 256, 257, 1 << 16, 1<<16 + 1, 1<<31 + 4, top32} {
			s.KeySize = n
			expectKey(t, m, s, nil, api.FatalKey)
			expectError(t, m, s, api.FatalKey)
		}
	}
}

func TestKeyInMemory(t *testing.T) {
	ram := make([]byte, 512)
	for i := range ram {
		ram[i] = byte(200 + i*7)
	}
	m := holding(t, ram...)
	for _, other := range []uint32{0, 2, 4, 6, 8, top32 &^ 1} {
		for _, n := range []uint32{0, 1, 2, 3, 4, 5, 7, 8, 255, 256} {
			s := api.Search{KeySize: n, Options: api.FindIndirect | other}
			for _, addr := range []uint32{ramStart, ramStart + 1, 768 - n} {
				s.Key = addr
				expectKey(t, m, s, ram[addr-ramStart:][:n], api.OK)
			}
			s.Key = 0
			expectKey(t, m, s, m.Bytes()[:n], api.OK)
		}
		for _, n := range []uint32{257, 258, 1 << 16, 1<<31 + 4, top32} {
			s := api.Search{Key: ramStart, KeySize: n, Options: api.FindIndirect | other}
			expectKey(t, m, s, nil, api.FatalKey)
			expectError(t, m, s, api.FatalKey)
		}
	}
}

func TestKeyThatIsNotThere(t *testing.T) {
	m := holding(t, bytes.Repeat([]byte{5}, 256)...)
	for _, n := range []uint32{1, 2, 3, 4, 5, 255, 256} {
		s := api.Search{KeySize: n, Start: ramStart, Size: 1, Count: 3, Options: api.FindIndirect}
		for _, addr := range []uint32{512 - n + 1, 512, 513, 1 << 20, 1 << 31, top32 - n, top32 - n + 1, top32} {
			s.Key = addr
			expectKey(t, m, s, nil, api.FatalRead)
			expectError(t, m, s, api.FatalRead)
		}
	}
}

func TestKeyOfNoBytesIsThereAnywhere(t *testing.T) {
	m := holding(t, 1)
	for _, addr := range []uint32{0, ramStart, 511, 512, 513, 1 << 31, top32} {
		expectKey(t, m, api.Search{Key: addr, Options: api.FindIndirect}, nil, api.OK)
	}
	// A number's key has bytes.
	expectKey(t, m, api.Search{Key: ramStart}, nil, api.FatalKey)
}

func TestFirstErrorOfKey(t *testing.T) {
	m := holding(t, 1)
	// FatalKey ahead of FatalRead, ErrNil ahead of both.
	expectKey(t, m, api.Search{Key: top32, KeySize: 257, Options: api.FindIndirect}, nil, api.FatalKey)
	for _, s := range []api.Search{
		{},
		{Key: 5, KeySize: 1, Start: ramStart, Size: 1, Count: 1},
		{Key: ramStart, KeySize: 2, Options: api.FindIndirect},
		{KeySize: 3},
		{KeySize: 257, Options: 7},
		{Key: top32, KeySize: 4, Options: 7},
		{Key: 5, KeySize: 1, Start: top32, Size: 1, Count: 1, Options: 6},
	} {
		if key, e := Key(nil, s); key != nil || e != api.ErrNil {
			t.Errorf("Key(nil, %+v) = %x, %d", s, key, e)
		}
		for _, f := range searches() {
			if x, e := f.do(nil, s); x != 0 || e != api.ErrNil {
				t.Errorf("%s(nil, %+v) = %d, %d", f.name, s, x, e)
			}
		}
	}
}

func TestKeysErrorComesFirst(t *testing.T) {
	m := holding(t, 1, 2, 3)
	// Though no structure is looked at, or none is there.
	for _, start := range []uint32{0, ramStart, 1 << 30} {
		for _, count := range []uint32{0, 1, top32} {
			s := api.Search{Key: ramStart, KeySize: 3, Start: start, Count: count, Size: 1, Next: 1}
			expectError(t, m, s, api.FatalKey)
			s.KeySize, s.Options = 257, api.FindIndirect|api.FindZero
			expectError(t, m, s, api.FatalKey)
			s.KeySize, s.Key = 3, 510
			expectError(t, m, s, api.FatalRead)
		}
	}
}

func TestKeyIsNewMemory(t *testing.T) {
	ram := bytes.Repeat([]byte{5}, 256)
	m := holding(t, ram...)
	was := m.Bytes()
	for _, s := range []api.Search{{Key: ramStart, KeySize: 8, Options: api.FindIndirect}, {Key: 0x05050505, KeySize: 4}} {
		a, _ := Key(m, s)
		b, _ := Key(m, s)
		spoilt := a[:cap(a)]
		for i := range spoilt {
			spoilt[i] = 9
		}
		if !bytes.Equal(b, bytes.Repeat([]byte{5}, int(s.KeySize))) || !bytes.Equal(m.Bytes(), was) {
			t.Errorf("Key(%+v) shares its memory", s)
		}
		m.Write(ramStart, 4, 0)
		if !bytes.Equal(b, bytes.Repeat([]byte{5}, int(s.KeySize))) {
			t.Errorf("Key(%+v) changes with the memory", s)
		}
		m.Write(ramStart, 4, 0x05050505)
	}
}

// P13.2, P13.3: the chapter's example

func TestExample(t *testing.T) {
	m := holding(t, slices.Concat(make([]byte, 300-ramStart), []byte{0, 5, 0, 7, 0, 0, 0, 9})...)
	s := api.Search{Key: 7, KeySize: 2, Start: 300, Size: 2, Count: 4}
	for _, c := range []struct{ key, options, want uint32 }{
		{7, 0, 302}, {7, api.FindIndex, 1},
		{9, 0, 306}, {9, api.FindZero, 0},
		{0, api.FindZero, 304},
		{8, 0, 0}, {8, api.FindIndex, 4294967295},
	} {
		s.Key, s.Options = c.key, c.options
		expectLinear(t, m, s, c.want, api.OK)
	}
}

// P13.2 to P13.4: rows

// layRow: structures of that size from ramStart on, whose keys lie at that place in them.
func layRow(size, offset int, keys ...[]byte) []byte {
	var b []byte
	for _, k := range keys {
		one := bytes.Repeat([]byte{0xee}, size)
		copy(one[offset:], k)
		b = append(b, one...)
	}
	return b
}

// numbered: n keys of that size, rising, of which none is all 0: byte by byte 128 and above is above what is below.
func numbered(n, size int) [][]byte {
	var l [][]byte
	for i := range n {
		k := make([]byte, size)
		k[size-1] = byte(1 + i*250/max(n, 1))
		if size > 1 {
			k[0] = byte(i * 255 / max(n, 1))
		}
		l = append(l, k)
	}
	return l
}

func TestEachOfARow(t *testing.T) {
	for _, size := range []int{1, 2, 4, 5, 256} {
		for _, n := range []int{1, 2, 3, 4, 5, 8, 13, 40} {
			for _, offset := range []int{0, 3} {
				keys := numbered(n, size)
				m := holding(t, append(layRow(size+5, offset, keys...), slices.Concat(keys...)...)...)
				behind := uint32(ramStart + n*(size+5))
				for i := range n {
					s := api.Search{KeySize: uint32(size), Start: ramStart, Size: uint32(size + 5), Count: uint32(n), Offset: uint32(offset)}
					s.Key, s.Options = behind+uint32(i*size), api.FindIndirect
					expectInRow(t, m, s, uint32(i), ramStart+uint32(i*(size+5)))
					s.Options |= api.FindZero
					expectInRow(t, m, s, uint32(i), ramStart+uint32(i*(size+5)))
					// One fewer does not reach the last one.
					s.Count = uint32(i)
					expectNotInRow(t, m, s)
					if size == 1 || size == 2 || size == 4 {
						s.Count, s.Options, s.Key = uint32(n), 0, 0x5a5a5a5a
						for _, x := range keys[i] {
							s.Key = s.Key<<8 | uint32(x)
						}
						expectInRow(t, m, s, uint32(i), ramStart+uint32(i*(size+5)))
					}
				}
			}
		}
	}
}

func TestNoneOfARow(t *testing.T) {
	for _, n := range []int{0, 1, 2, 3, 7} {
		m := holding(t, layRow(3, 1, numbered(n, 2)...)...)
		for _, key := range []uint32{0, 0x7000, 0xfffe, 0xffff} {
			s := api.Search{Key: key, KeySize: 2, Start: ramStart, Size: 3, Count: uint32(n), Offset: 1}
			expectNotInRow(t, m, s)
		}
	}
	// Of a Count of 0 nothing is looked at, though nothing is there.
	expectNotInRow(t, holding(t, 1), api.Search{Key: 1, KeySize: 1, Start: 1 << 30, Size: 1})
	expectNotInRow(t, holding(t, 1), api.Search{Start: ramStart, Size: 1, Options: api.FindIndirect})
}

func TestOptionsThatAreNone(t *testing.T) {
	m := holding(t, 3, 0, 7, 9)
	s := api.Search{Key: 7, KeySize: 1, Start: ramStart, Size: 1, Count: 4}
	for bit := uint32(8); bit != 0; bit <<= 1 {
		s.Options = bit
		expectLinear(t, m, s, ramStart+2, api.OK)
		s.Options = bit | api.FindIndex
		expectLinear(t, m, s, 2, api.OK)
		s.Options = bit | api.FindZero
		expectLinear(t, m, s, 0, api.OK)
		s.Options = bit | api.FindZero | api.FindIndex
		expectLinear(t, m, s, top32, api.OK)
	}
}

func TestOptionsTogether(t *testing.T) {
	m := holding(t, 0, 3, 0, 5, 0, 0, 0, 7)
	indirect := func(addr uint32) api.Search {
		return api.Search{Key: addr, KeySize: 2, Start: ramStart, Size: 2, Count: 4, Options: api.FindIndirect}
	}
	for _, c := range []struct{ addr, options, want uint32 }{
		{ramStart + 2, 0, ramStart + 2}, {ramStart + 2, 2, ramStart + 2}, {ramStart + 2, 4, 1}, {ramStart + 2, 6, 1},
		{ramStart + 6, 0, ramStart + 6}, {ramStart + 6, 2, 0}, {ramStart + 6, 4, 3}, {ramStart + 6, 6, top32},
		{ramStart + 4, 0, ramStart + 4}, {ramStart + 4, 2, ramStart + 4}, {ramStart + 4, 4, 2}, {ramStart + 4, 6, 2},
		{ramStart + 1, 0, 0}, {ramStart + 1, 2, 0}, {ramStart + 1, 4, top32}, {ramStart + 1, 6, top32},
	} {
		s := indirect(c.addr)
		s.Options |= c.options
		expectLinear(t, m, s, c.want, api.OK)
	}
}

func TestSizeZero(t *testing.T) {
	m := holding(t, 5, 6)
	for _, count := range []uint32{1, 2, 3, 1000, top32 - 1, top32} {
		s := api.Search{Key: 5, KeySize: 1, Start: ramStart, Count: count}
		expectLinear(t, m, s, ramStart, api.OK)
		expectBinary(t, m, s, ramStart, api.OK)
		s.Options = api.FindIndex
		expectLinear(t, m, s, 0, api.OK)
		// Of those that are all alike Binary finds the one in the middle.
		expectBinary(t, m, s, count/2, api.OK)
		for _, key := range []uint32{4, 6} {
			s.Key, s.Options = key, 0
			expectNotInRow(t, m, s)
		}
		s.Start = 512
		expectLinear(t, m, s, 0, api.FatalRead)
		expectBinary(t, m, s, 0, api.FatalRead)
	}
	expectNotInRow(t, m, api.Search{Key: 5, KeySize: 1, Start: ramStart})
}

func TestSizeThatWrapsRound(t *testing.T) {
	// From the last one down: a Size of 2^32 - 2 is two bytes back.
	m := holding(t, 0, 9, 0, 7, 0, 5, 0, 3)
	for i, key := range []uint32{3, 5, 7, 9} {
		s := api.Search{Key: key, KeySize: 2, Start: ramStart + 6, Size: top32 - 1, Count: 4}
		expectInRow(t, m, s, uint32(i), ramStart+6-2*uint32(i))
	}
	// Twice 2^31 is nothing: the third one lies where the first one does; the second one is not there.
	s := api.Search{Key: 7, KeySize: 1, Start: ramStart + 3, Size: 1 << 31, Count: 4}
	expectBinary(t, m, s, ramStart+3, api.OK)
	s.Options = api.FindIndex
	expectBinary(t, m, s, 2, api.OK)
	expectLinear(t, m, s, 0, api.OK)
	s.Key = 8
	expectBinary(t, m, s, 0, api.FatalRead)
	expectLinear(t, m, s, 0, api.FatalRead)
	// Three times a third of 2^32 and one more.
	s = api.Search{Key: 7, KeySize: 1, Start: ramStart + 2, Size: 0x55555556, Count: 7, Options: api.FindIndex}
	m = holding(t, 0, 0, 0, 0, 7)
	expectBinary(t, m, s, 3, api.OK)
	s.Options = 0
	expectBinary(t, m, s, ramStart+2+2, api.OK)
}

func TestStartThatWrapsRound(t *testing.T) {
	// The second structure lies at 0: the first one's key lies behind it, by an Offset.
	m := holding(t, 1)
	s := api.Search{Key: 0x75, KeySize: 1, Start: top32, Size: 1, Count: 4, Offset: 1}
	expectLinear(t, m, s, 1, api.OK)
	s.Key = 0x47
	expectLinear(t, m, s, top32, api.OK)
	s.Key = 0x6c
	expectLinear(t, m, s, 0, api.OK)
	s.Options = api.FindIndex
	expectLinear(t, m, s, 1, api.OK)
}

func TestOffsetThatWrapsRound(t *testing.T) {
	m := holding(t, 0, 3, 0, 5, 0, 7)
	for _, back := range []uint32{1, 2, 100, 255, 256, 257, 1 << 20, 1 << 31} {
		for i := range uint32(3) {
			s := api.Search{Key: 3 + 2*i, KeySize: 2, Start: ramStart + back, Size: 2, Count: 3, Offset: -back}
			expectInRow(t, m, s, i, ramStart+back+2*i)
		}
		s := api.Search{Key: 9, KeySize: 2, Start: ramStart + back, Size: 2, Count: 3, Offset: -back}
		expectNotInRow(t, m, s)
	}
}

func TestCountForEver(t *testing.T) {
	ram := bytes.Repeat([]byte{1}, 512)
	ram[500] = 2
	m := holding(t, ram...)
	for _, count := range []uint32{501, 512, 1 << 16, top32 - 1, top32} {
		s := api.Search{Key: 2, KeySize: 1, Start: ramStart, Size: 1, Count: count}
		expectLinear(t, m, s, ramStart+500, api.OK)
		s.Options = api.FindIndex
		expectLinear(t, m, s, 500, api.OK)
	}
	for _, count := range []uint32{513, 1 << 16, top32 - 1, top32} {
		s := api.Search{Key: 3, KeySize: 1, Start: ramStart, Size: 1, Count: count}
		expectLinear(t, m, s, 0, api.FatalRead)
		s.Options = api.FindZero | api.FindIndex
		expectLinear(t, m, s, 0, api.FatalRead)
		m.Write(ramStart+501, 1, 0)
		expectLinear(t, m, s, top32, api.OK)
		s.Size = 0
		expectLinear(t, m, s, top32, api.OK)
		m.Write(ramStart+501, 1, 1)
	}
	expectNotInRow(t, m, api.Search{Key: 3, KeySize: 1, Start: ramStart, Size: 1, Count: 512})
}

func TestBinaryOfTheGreatestCounts(t *testing.T) {
	m := holding(t, 5, 6, 7)
	for _, count := range []uint32{top32, top32 - 1} {
		middle := uint32(top32 / 2)
		s := api.Search{Key: 6, KeySize: 1, Start: ramStart + 1 - middle, Size: 1, Count: count}
		expectBinary(t, m, s, ramStart+1, api.OK)
		s.Options = api.FindIndex
		expectBinary(t, m, s, middle, api.OK)
		// A quarter further on, or ahead of it, nothing is there.
		for _, key := range []uint32{4, 8} {
			s.Key = key
			expectBinary(t, m, s, 0, api.FatalRead)
		}
		// All lie at one place: low goes up to the end, and both together are more than a word holds, or high goes down to 0.
		for _, key := range []uint32{4, 8} {
			expectBinary(t, m, api.Search{Key: key, KeySize: 1, Start: ramStart + 1, Count: count, Options: api.FindIndex}, top32, api.OK)
		}
	}
	// A Count that is for ever to Linear is a number like others here.
	s := api.Search{Key: 6, KeySize: 1, Start: ramStart, Size: 1, Count: top32}
	expectLinear(t, m, s, ramStart+1, api.OK)
	expectBinary(t, m, s, 0, api.FatalRead)
}

func TestStructuresAtTheMemorysEnd(t *testing.T) {
	for _, n := range []int{1, 2, 4, 256} {
		k := bytes.Repeat([]byte{0x80}, n)
		m := ending(t, k...)
		s := api.Search{KeySize: uint32(n), Key: 512 - uint32(n), Start: 512 - uint32(n), Size: 1, Count: 1, Options: api.FindIndirect}
		expectInRow(t, m, s, 0, 512-uint32(n))
		expectLinked(t, m, s, 512-uint32(n), api.OK)
		// One byte further, by Start or by Offset, it is not there any more.
		s.Start++
		expectError(t, m, s, api.FatalRead)
		s.Start--
		s.Offset++
		expectError(t, m, s, api.FatalRead)
		// Its last byte is 2^32 - 1, or it goes on at 0.
		for _, start := range []uint32{top32 - uint32(n) + 1, top32, top32 - 1, 1 << 31, 1 << 20} {
			s.Start, s.Offset = start, 0
			expectError(t, m, s, api.FatalRead)
			s.Start, s.Offset = ramStart, start-ramStart
			expectError(t, m, s, api.FatalRead)
		}
	}
}

func TestFirstThatIsNotThere(t *testing.T) {
	m := ending(t, 1, 2, 3, 4)
	s := api.Search{KeySize: 2, Start: 508, Size: 1, Count: 9}
	// Found ahead of it.
	s.Key = 0x0304
	expectLinear(t, m, s, 510, api.OK)
	// What would be found behind it is not looked at: 04, and no byte more.
	s.Key = 0x0477
	expectLinear(t, m, s, 0, api.FatalRead)
	// The row wraps round to 0, where the game begins with 47 6c.
	s.Size, s.Key, s.Options = top32-507, 0x476c, api.FindIndex
	expectLinear(t, m, s, 1, api.OK)
	s.Size, s.Options = 1, api.FindZero|api.FindIndex
	s.Key = 5
	expectLinear(t, m, s, 0, api.FatalRead)
	// Binary looks at the middle one first: 508 and 4 is not there.
	s.Key, s.Options = 0x0102, 0
	expectBinary(t, m, s, 0, api.FatalRead)
	s.Count = 3
	expectBinary(t, m, s, 508, api.OK)
	s.Count, s.Key = 4, 0x0304
	expectBinary(t, m, s, 510, api.OK)
	s.Key = 0x0305
	expectBinary(t, m, s, 0, api.FatalRead)
	s.Key = 0x0001
	expectBinary(t, m, s, 0, api.OK)
}

func TestFindZero(t *testing.T) {
	for _, n := range []int{1, 2, 4, 5, 256} {
		zero := make([]byte, n)
		one, two, three := bytes.Clone(zero), bytes.Clone(zero), bytes.Clone(zero)
		// Bytes that are not all 0, in the first, the last and the middle place.
		one[0], two[n-1], three[n/2] = 1, 2, 3
		ram := slices.Concat(one, two, zero, three, zero)
		m := holding(t, ram...)
		for i, c := range []struct{ plain, stops uint32 }{{0, 0}, {1, 1}, {2, 2}, {3, top32}} {
			s := api.Search{KeySize: uint32(n), Key: ramStart + uint32(i*n), Start: ramStart, Size: uint32(n), Count: 5, Options: api.FindIndirect | api.FindIndex}
			expectLinear(t, m, s, c.plain, api.OK)
			s.Options |= api.FindZero
			expectLinear(t, m, s, c.stops, api.OK)
		}
	}
}

func TestFindZeroHasNoPartInBinary(t *testing.T) {
	m := holding(t, 0, 0, 0, 4, 0, 7, 0, 9)
	for _, options := range []uint32{0, api.FindZero} {
		for i, key := range []uint32{0, 4, 7, 9} {
			s := api.Search{Key: key, KeySize: 2, Start: ramStart, Size: 2, Count: 4, Options: options}
			expectBinary(t, m, s, ramStart+2*uint32(i), api.OK)
			s.Options |= api.FindIndex
			expectBinary(t, m, s, uint32(i), api.OK)
		}
	}
	// The middle one is all 0, and below: the last one is looked at, too.
	m = holding(t, 0, 0, 5)
	s := api.Search{Key: 5, KeySize: 1, Start: ramStart, Size: 1, Count: 3, Options: api.FindZero}
	expectBinary(t, m, s, ramStart+2, api.OK)
}

func TestBytesAreNumbersFromZero(t *testing.T) {
	m := holding(t, 0x00, 0x01, 0x7f, 0x80, 0x81, 0xff)
	for i, key := range []uint32{0, 1, 0x7f, 0x80, 0x81, 0xff} {
		expectInRow(t, m, api.Search{Key: key, KeySize: 1, Start: ramStart, Size: 1, Count: 6}, uint32(i), ramStart+uint32(i))
	}
	for _, key := range []uint32{2, 0x7e, 0x82, 0xfe} {
		expectNotInRow(t, m, api.Search{Key: key, KeySize: 1, Start: ramStart, Size: 1, Count: 6})
	}
	// The first byte that is another one tells which is below, whatever is behind it.
	ram := []byte{0, 0xff, 0xff, 0xff, 0x7f, 0xff, 0, 0xff, 0x80, 0, 0xff, 0, 0xff, 0, 0, 0}
	m = holding(t, ram...)
	for i := range uint32(4) {
		s := api.Search{Key: ramStart + 4*i, KeySize: 4, Start: ramStart, Size: 4, Count: 4, Options: api.FindIndirect}
		expectInRow(t, m, s, i, ramStart+4*i)
	}
}

func TestTwoThatAreAlike(t *testing.T) {
	m := holding(t, 3, 5, 5, 7, 7, 7)
	s := api.Search{KeySize: 1, Start: ramStart, Size: 1, Count: 6, Options: api.FindIndex}
	for _, c := range []struct{ key, linear, binary uint32 }{{3, 0, 0}, {5, 1, 1}, {7, 3, 3}} {
		s.Key = c.key
		expectLinear(t, m, s, c.linear, api.OK)
		expectBinary(t, m, s, c.binary, api.OK)
	}
	// Of four the third one is looked at first.
	m = holding(t, 5, 5, 5, 5)
	s.Key, s.Count = 5, 4
	expectLinear(t, m, s, 0, api.OK)
	expectBinary(t, m, s, 2, api.OK)
}

func TestKeyOfNoBytesIsFoundAtOnce(t *testing.T) {
	m := holding(t, 0, 1)
	for _, key := range []uint32{0, ramStart, 1 << 30, top32} {
		for _, start := range []uint32{ramStart, 511, 512, 1 << 30, top32} {
			for _, zero := range []uint32{0, api.FindZero} {
				for _, count := range []uint32{1, 2, 3, 8, top32} {
					s := api.Search{Key: key, Start: start, Size: 3, Count: count, Options: api.FindIndirect | zero}
					expectLinear(t, m, s, start, api.OK)
					expectBinary(t, m, s, start+3*(count/2), api.OK)
					expectLinked(t, m, s, start, api.OK)
					s.Options |= api.FindIndex
					expectLinear(t, m, s, 0, api.OK)
					expectBinary(t, m, s, count/2, api.OK)
					expectLinked(t, m, s, start, api.OK)
				}
			}
		}
	}
	expectNotInRow(t, m, api.Search{Start: ramStart, Options: api.FindIndirect})
	expectLinked(t, m, api.Search{Options: api.FindIndirect}, 0, api.OK)
}

// All by chance

func TestAllByChance(t *testing.T) {
	r := rand.New(rand.NewSource(1301))
	seen := map[string]int{}
	for range 1500 {
		size := ramStart + 256*(1+r.Intn(2))
		m := holding(t, someRam(r, size-ramStart)...)
		b := m.Bytes()
		for range 40 {
			s := someSearch(r, size)
			key, e := modelKey(b, s)
			expectKey(t, m, s, key, e)
			for _, f := range searches() {
				x, e := f.model(b, s)
				expect(t, f.name, f.do, m, s, x, e)
				seen[f.name+outcome(x, e)]++
			}
		}
		if t.Failed() {
			return
		}
	}
	for _, f := range searches() {
		for _, what := range []string{" finds", " finds none", " FatalKey", " FatalRead"} {
			if seen[f.name+what] < 1000 {
				t.Errorf("%s%s: only %d times", f.name, what, seen[f.name+what])
			}
		}
	}
	if seen["Linked FatalLoop"] < 100 {
		t.Errorf("Linked FatalLoop: only %d times", seen["Linked FatalLoop"])
	}
}

// outcome: what was answered, in a word.
func outcome(x uint32, e api.Errno) string {
	switch {
	case e == api.FatalKey:
		return " FatalKey"
	case e == api.FatalRead:
		return " FatalRead"
	case e == api.FatalLoop:
		return " FatalLoop"
	case x == 0 || x == top32:
		return " finds none"
	}
	return " finds"
}

// P13.5

// layChain: a memory in which a chain goes through these structures in their order: each has its number behind a key of one byte.
func layChain(t *testing.T, size int, keys []byte, places []uint32) *memory.Memory {
	t.Helper()
	ram := make([]byte, size-ramStart)
	for i, p := range places {
		next := uint32(0)
		if i+1 < len(places) {
			next = places[i+1]
		}
		copy(ram[p-ramStart:], []byte{keys[i], byte(next >> 24), byte(next >> 16), byte(next >> 8), byte(next)})
	}
	return holding(t, ram...)
}

func TestEachOfAChain(t *testing.T) {
	places := []uint32{400, 300, 500, 256, 310, 507}
	keys := []byte{9, 200, 3, 9, 128, 1}
	for n := range len(places) + 1 {
		m := layChain(t, 512, keys, places[:n])
		first := append(places[:n:n], 0)[0]
		for _, other := range []uint32{0, 8, api.FindIndex, api.FindZero, top32 &^ 1} {
			for i, k := range keys {
				s := api.Search{Key: uint32(k), KeySize: 1, Start: first, Next: 1, Options: other}
				want := uint32(0)
				if i < n {
					want = places[slices.Index(keys, k)]
				}
				if i == 3 && n > 0 {
					want = 400
				}
				expectLinked(t, m, s, want, api.OK)
			}
			// None has it: with FindIndex, too, that is told by 0.
			s := api.Search{Key: 77, KeySize: 1, Start: first, Next: 1, Options: other}
			expectLinked(t, m, s, 0, api.OK)
		}
	}
}

func TestChainOfNone(t *testing.T) {
	m := holding(t, 1)
	// At 0 there is none, though bytes are there, the key among them.
	for _, options := range []uint32{0, 2, 4, 6} {
		expectLinked(t, m, api.Search{Key: 0x47, KeySize: 1, Options: options}, 0, api.OK)
		expectLinked(t, m, api.Search{Key: 0x47, KeySize: 1, Offset: 1 << 30, Next: 1 << 30, Options: options}, 0, api.OK)
	}
	// Size and Count have no part.
	for _, count := range []uint32{0, 1, top32} {
		for _, size := range []uint32{0, 1, top32} {
			expectLinked(t, m, api.Search{Key: 1, KeySize: 1, Start: ramStart, Next: 1, Size: size, Count: count}, ramStart, api.OK)
			expectLinked(t, m, api.Search{Key: 2, KeySize: 1, Start: ramStart, Next: 1, Size: size, Count: count}, 0, api.OK)
		}
	}
}

func TestChainWithWrappingOffsetAndNext(t *testing.T) {
	// Keys of two bytes lie ahead of the structures, their next numbers still further ahead.
	m := holding(t, 0, 0, 1, 20, 0, 5, 0xee, 0, 0, 0, 0, 0, 0, 0, 0, 0, 0, 7, 0xee)
	for _, back := range []uint32{0, 1, 100, 1 << 31} {
		m.Write(ramStart, 4, ramStart+16+back)
		m.Write(ramStart+12, 4, 0)
		for _, c := range []struct{ key, want uint32 }{{5, ramStart + 4 + back}, {7, ramStart + 16 + back}, {9, 0}} {
			s := api.Search{Key: c.key, KeySize: 2, Start: ramStart + 4 + back, Offset: -back, Next: -back - 4}
			expectLinked(t, m, s, c.want, api.OK)
		}
	}
}

func TestNextNumberIsOfFourBytes(t *testing.T) {
	m := holding(t, make([]byte, 256)...)
	for _, next := range []uint32{1, 255, 512, 0x100, 0x10000 + ramStart, 0x1000000 + ramStart, 1<<31 + ramStart, top32} {
		m.Write(ramStart, 4, next)
		s := api.Search{Key: 0x77, KeySize: 1, Start: ramStart, Offset: 8}
		x, e := modelLinked(m.Bytes(), s)
		expectLinked(t, m, s, x, e)
	}
	m.Write(ramStart, 4, 0x10000+ramStart+40)
	m.Write(ramStart+48, 1, 0x77)
	expectLinked(t, m, api.Search{Key: 0x77, KeySize: 1, Start: ramStart, Offset: 8}, 0, api.FatalRead)
	m.Write(ramStart, 4, ramStart+40)
	expectLinked(t, m, api.Search{Key: 0x77, KeySize: 1, Start: ramStart, Offset: 8}, ramStart+40, api.OK)
}

func TestNextNumberAtTheMemorysEnd(t *testing.T) {
	m := ending(t, 5, 0, 0, 0, 0)
	s := api.Search{Key: 6, KeySize: 1, Start: 507, Next: 1}
	expectLinked(t, m, s, 0, api.OK)
	for next := uint32(2); next < 8; next++ {
		s.Next = next
		expectLinked(t, m, s, 0, api.FatalRead)
	}
	for _, to := range []uint32{top32, top32 - 1, top32 - 2, top32 - 3, 1 << 31, 1 << 20} {
		s.Next = to - s.Start
		expectLinked(t, m, s, 0, api.FatalRead)
		// What has the key, and what ends the chain, needs no next number.
		found := s
		found.Key = 5
		expectLinked(t, m, found, 507, api.OK)
		ends := s
		ends.Start, ends.Next, ends.Options = 508, to-508, api.FindZero
		expectLinked(t, m, ends, 0, api.OK)
		ends.Options = 0
		expectLinked(t, m, ends, 0, api.FatalRead)
	}
}

func TestKeyOfAChainThatIsNotThere(t *testing.T) {
	m := layChain(t, 512, []byte{1, 2}, []uint32{300, 400})
	for _, to := range []uint32{511, 512, 1 << 20, 1 << 31, top32} {
		m.Write(401, 4, to)
		s := api.Search{Key: 0x99, KeySize: 2, Start: 300, Next: 1}
		expectLinked(t, m, s, 0, api.FatalRead)
		s.Key = 0x0200
		want := uint32(400)
		if to == top32 {
			s.Key = 0x02ff
		}
		if to == 1<<31 {
			s.Key = 0x0280
		}
		expectLinked(t, m, s, want, api.OK)
	}
	// Of the first one.
	for _, start := range []uint32{511, 512, 1 << 31, top32} {
		expectLinked(t, m, api.Search{Key: 0x99, KeySize: 2, Start: start, Next: -start + 300}, 0, api.FatalRead)
	}
}

func TestFindZeroInAChain(t *testing.T) {
	places := []uint32{300, 280, 320, 400}
	m := layChain(t, 512, []byte{5, 6, 0, 7}, places)
	for _, c := range []struct{ key, plain, stops uint32 }{{5, 300, 300}, {6, 280, 280}, {0, 320, 320}, {7, 400, 0}, {8, 0, 0}} {
		s := api.Search{Key: c.key, KeySize: 1, Start: 300, Next: 1}
		expectLinked(t, m, s, c.plain, api.OK)
		s.Options = api.FindZero
		expectLinked(t, m, s, c.stops, api.OK)
		s.Options = api.FindZero | api.FindIndex
		expectLinked(t, m, s, c.stops, api.OK)
	}
	// It also ends what would go on for ever.
	m.Write(401, 4, 280)
	expectLinked(t, m, api.Search{Key: 9, KeySize: 1, Start: 300, Next: 1, Options: api.FindZero}, 0, api.OK)
	expectLinked(t, m, api.Search{Key: 9, KeySize: 1, Start: 300, Next: 1}, 0, api.FatalLoop)
}

func TestRings(t *testing.T) {
	for n := 1; n <= 5; n++ {
		places := []uint32{300, 256, 320, 500, 400}[:n]
		for back := range n {
			m := layChain(t, 512, []byte{1, 2, 3, 4, 5}[:n], places)
			m.Write(places[n-1]+1, 4, places[back])
			for _, options := range []uint32{0, api.FindZero, api.FindIndex, 6} {
				s := api.Search{Key: 9, KeySize: 1, Start: 300, Next: 1, Options: options}
				expectLinked(t, m, s, 0, api.FatalLoop)
				for i := range n {
					s.Key = uint32(1 + i)
					expectLinked(t, m, s, places[i], api.OK)
				}
			}
		}
	}
}

// longChain: a memory in which a chain goes through n structures of six bytes, the last one first; each has 3 for its key.
func longChain(t *testing.T, n int) (*memory.Memory, []uint32) {
	t.Helper()
	keys := bytes.Repeat([]byte{3}, n)
	var places []uint32
	for i := range n {
		places = append(places, uint32(ramStart+6*(n-1-i)))
	}
	return layChain(t, (ramStart+6*n+255)/256*256, keys, places), places
}

func TestChainOfMaxLinks(t *testing.T) {
	m, places := longChain(t, api.MaxLinks)
	last := places[api.MaxLinks-1]
	s := api.Search{Key: 7, KeySize: 1, Start: places[0], Next: 1}
	expectLinked(t, m, s, 0, api.OK)
	// What the last one tells is looked at, its next number, too.
	m.Write(last+5, 1, 0xff)
	s.Next = 2
	expectLinked(t, m, s, 0, api.FatalRead)
	s.Next = 1
	m.Write(last, 1, 7)
	expectLinked(t, m, s, last, api.OK)
	m.Write(last, 1, 3)
	// One more is not looked at, wherever it lies.
	for _, to := range []uint32{places[0], 1, 100, m.Size(), 1 << 31, top32} {
		m.Write(last+1, 4, to)
		expectLinked(t, m, s, 0, api.FatalLoop)
	}
	m.Write(last+1, 4, 0)
	m.Write(last, 1, 0)
	m.Write(last+1, 4, places[0])
	expectLinked(t, m, s, 0, api.FatalLoop)
	s.Options = api.FindZero
	expectLinked(t, m, s, 0, api.OK)
}

func TestChainOfOneMoreThanMaxLinks(t *testing.T) {
	m, places := longChain(t, api.MaxLinks+1)
	last := places[api.MaxLinks]
	s := api.Search{Key: 7, KeySize: 1, Start: places[0], Next: 1}
	expectLinked(t, m, s, 0, api.FatalLoop)
	m.Write(last, 1, 7)
	expectLinked(t, m, s, 0, api.FatalLoop)
	m.Write(last, 1, 0)
	s.Options = api.FindZero
	expectLinked(t, m, s, 0, api.FatalLoop)
	// From the second one on there are just MaxLinks.
	s.Start, s.Options = places[1], 0
	expectLinked(t, m, s, 0, api.OK)
	m.Write(last, 1, 7)
	expectLinked(t, m, s, last, api.OK)
}

// The longest ones

func TestLongRowsEnd(t *testing.T) {
	m := holding(t, bytes.Repeat([]byte{1}, api.MaxMem-ramStart)...)
	s := api.Search{Key: 2, KeySize: 1, Start: ramStart, Size: 1, Count: top32}
	expectLinear(t, m, s, 0, api.FatalRead)
	s.Start, s.Size = api.MaxMem-1, top32
	m.Write(ramStart, 1, 2)
	expectLinear(t, m, s, ramStart, api.OK)
	s.Key = 0x199
	expectLinear(t, m, s, 36+0x98, api.OK)
	s.KeySize = 2
	expectLinear(t, m, s, 0, api.FatalRead)
}
