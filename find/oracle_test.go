package find

import (
	"bytes"
	"math/rand"
	"testing"

	"grotto/api"
	"grotto/header"
	"grotto/memory"
)

// top32 is the greatest word.
const top32 = 1<<32 - 1

// ramStart: from here on the memories of these tests may be written.
const ramStart = 256

// some: the n bytes from addr on, address by address modulo 2^32; false, if one of them is not in b.
func some(b []byte, addr, n uint32) ([]byte, bool) {
	var l []byte
	for i := range n {
		at := (uint64(addr) + uint64(i)) % (1 << 32)
		if at >= uint64(len(b)) {
			return nil, false
		}
		l = append(l, b[at])
	}
	return l, true
}

// modelKey: what Key must tell, by the words of P13.1.
func modelKey(b []byte, s api.Search) ([]byte, api.Errno) {
	indirect := s.Options%2 == 1
	if s.KeySize > 256 || !indirect && s.KeySize != 1 && s.KeySize != 2 && s.KeySize != 4 {
		return nil, api.FatalKey
	}
	if indirect {
		key, ok := some(b, s.Key, s.KeySize)
		if !ok {
			return nil, api.FatalRead
		}
		return key, api.OK
	}
	four := []byte{byte(s.Key >> 24), byte(s.Key >> 16), byte(s.Key >> 8), byte(s.Key)}
	return four[4-s.KeySize:], api.OK
}

// modelTold: what is told of structure i at addr, or of none.
func modelTold(s api.Search, i uint64, addr uint32, found bool) uint32 {
	index := s.Options/4%2 == 1
	switch {
	case found && index:
		return uint32(i)
	case found:
		return addr
	case index:
		return top32
	}
	return 0
}

// allZero: are all bytes 0?
func allZero(b []byte) bool {
	return bytes.Count(b, []byte{0}) == len(b)
}

// at: where structure i of a row lies.
func at(s api.Search, i uint64) uint32 {
	return uint32((uint64(s.Start) + i*uint64(s.Size)) % (1 << 32))
}

// modelLinear: what Linear must tell, by the words of P13.2 and P13.3.
func modelLinear(b []byte, s api.Search) (uint32, api.Errno) {
	key, e := modelKey(b, s)
	if e != api.OK {
		return 0, e
	}
	for i := uint64(0); s.Count == top32 || i < uint64(s.Count); i++ {
		k, ok := some(b, at(s, i)+s.Offset, s.KeySize)
		if !ok {
			return 0, api.FatalRead
		}
		if bytes.Equal(k, key) {
			return modelTold(s, i, at(s, i), true), api.OK
		}
		if s.Options/2%2 == 1 && allZero(k) {
			break
		}
		if s.Size == 0 {
			break
		}
	}
	return modelTold(s, 0, 0, false), api.OK
}

// isBelow: is a below b, byte by byte?
func isBelow(a, b []byte) bool {
	for i := range a {
		if a[i] != b[i] {
			return int(a[i]) < int(b[i])
		}
	}
	return false
}

// modelBinary: what Binary must tell, by the words of P13.2 and P13.4.
func modelBinary(b []byte, s api.Search) (uint32, api.Errno) {
	key, e := modelKey(b, s)
	if e != api.OK {
		return 0, e
	}
	low, high := uint64(0), uint64(s.Count)
	for low < high {
		middle := (low + high) / 2
		k, ok := some(b, at(s, middle)+s.Offset, s.KeySize)
		switch {
		case !ok:
			return 0, api.FatalRead
		case bytes.Equal(k, key):
			return modelTold(s, middle, at(s, middle), true), api.OK
		case isBelow(k, key):
			low = middle + 1
		default:
			high = middle
		}
	}
	return modelTold(s, 0, 0, false), api.OK
}

// modelLinked: what Linked must tell, by the words of P13.2 and P13.5.
func modelLinked(b []byte, s api.Search) (uint32, api.Errno) {
	key, e := modelKey(b, s)
	if e != api.OK {
		return 0, e
	}
	addr := s.Start
	for looked := 0; ; looked++ {
		if addr == 0 {
			return 0, api.OK
		}
		if looked == 65536 {
			return 0, api.FatalLoop
		}
		k, ok := some(b, addr+s.Offset, s.KeySize)
		if !ok {
			return 0, api.FatalRead
		}
		if bytes.Equal(k, key) {
			return addr, api.OK
		}
		if s.Options/2%2 == 1 && allZero(k) {
			return 0, api.OK
		}
		n, ok := some(b, addr+s.Next, 4)
		if !ok {
			return 0, api.FatalRead
		}
		addr = uint32(n[0])<<24 | uint32(n[1])<<16 | uint32(n[2])<<8 | uint32(n[3])
	}
}

// search is one of Linear, Binary and Linked.
type search struct {
	name  string
	do    func(*memory.Memory, api.Search) (uint32, api.Errno)
	model func([]byte, api.Search) (uint32, api.Errno)
}

// searches: all three, with what they must tell.
func searches() []search {
	return []search{
		{"Linear", Linear, modelLinear},
		{"Binary", Binary, modelBinary},
		{"Linked", Linked, modelLinked},
	}
}

// holding: a memory whose bytes from ramStart on are these, and bytes 0 up to its end.
func holding(t *testing.T, ram ...byte) *memory.Memory {
	t.Helper()
	end := (ramStart + len(ram) + 255) / 256 * 256
	rest := make([]byte, ramStart-36)
	for i := range rest {
		rest[i] = byte(1 + i%251)
	}
	game, e := header.Make(api.Header{Version: 0x30103, RamStart: ramStart, ExtStart: ramStart, EndMem: ramStart, StackSize: 256, Start: 36}, rest)
	if e != api.OK {
		t.Fatal(e)
	}
	m, e, _ := memory.New(game)
	if e != api.OK {
		t.Fatal(e)
	}
	full := make([]byte, end-ramStart)
	copy(full, ram)
	if e := m.Load(full, 0); e != api.OK {
		t.Fatal(e)
	}
	return m
}

// ending: a memory of 512 bytes of which the last ones are these, those between being 0x77.
func ending(t *testing.T, last ...byte) *memory.Memory {
	t.Helper()
	return holding(t, append(bytes.Repeat([]byte{0x77}, 256-len(last)), last...)...)
}

// expectKey: Key tells that, and the memory stays as it is.
func expectKey(t *testing.T, m *memory.Memory, s api.Search, want []byte, e api.Errno) {
	t.Helper()
	was := m.Bytes()
	key, err := Key(m, s)
	if !bytes.Equal(key, want) || err != e {
		t.Errorf("Key(%+v) = %x, %d, not %x, %d", s, key, err, want, e)
	}
	if !bytes.Equal(m.Bytes(), was) {
		t.Errorf("Key(%+v) changes the memory", s)
	}
}

// expect: the search tells that, and the memory stays as it is.
func expect(t *testing.T, name string, do func(*memory.Memory, api.Search) (uint32, api.Errno), m *memory.Memory, s api.Search, want uint32, e api.Errno) {
	t.Helper()
	was := m.Bytes()
	x, err := do(m, s)
	if x != want || err != e {
		t.Errorf("%s(%+v) = %d, %d, not %d, %d", name, s, x, err, want, e)
	}
	if !bytes.Equal(m.Bytes(), was) {
		t.Errorf("%s(%+v) changes the memory", name, s)
	}
}

func expectLinear(t *testing.T, m *memory.Memory, s api.Search, want uint32, e api.Errno) {
	t.Helper()
	expect(t, "Linear", Linear, m, s, want, e)
}

func expectBinary(t *testing.T, m *memory.Memory, s api.Search, want uint32, e api.Errno) {
	t.Helper()
	expect(t, "Binary", Binary, m, s, want, e)
}

func expectLinked(t *testing.T, m *memory.Memory, s api.Search, want uint32, e api.Errno) {
	t.Helper()
	expect(t, "Linked", Linked, m, s, want, e)
}

// expectInRow: Linear and Binary tell structure i, at its address, and with FindIndex by its number; both of them with other bits, too.
func expectInRow(t *testing.T, m *memory.Memory, s api.Search, i, addr uint32) {
	t.Helper()
	for _, other := range []uint32{0, 8, top32 &^ 7} {
		by := s
		by.Options |= other
		expectLinear(t, m, by, addr, api.OK)
		expectBinary(t, m, by, addr, api.OK)
		by.Options |= api.FindIndex
		expectLinear(t, m, by, i, api.OK)
		expectBinary(t, m, by, i, api.OK)
	}
}

// expectNotInRow: Linear and Binary tell none.
func expectNotInRow(t *testing.T, m *memory.Memory, s api.Search) {
	t.Helper()
	expectInRow(t, m, s, top32, 0)
}

// expectError: all three answer that error, and 0.
func expectError(t *testing.T, m *memory.Memory, s api.Search, e api.Errno) {
	t.Helper()
	for _, f := range searches() {
		expect(t, f.name, f.do, m, s, 0, e)
		s.Options ^= api.FindIndex
		expect(t, f.name, f.do, m, s, 0, e)
	}
}

// someOf: one of these by chance.
func someOf[T any](r *rand.Rand, l ...T) T {
	return l[r.Intn(len(l))]
}

// someRam: so many bytes by chance, few of them unlike one another; at each eighth byte and 4, most times, the number of another eighth byte.
func someRam(r *rand.Rand, n int) []byte {
	b := make([]byte, n)
	for i := range b {
		b[i] = someOf[byte](r, 0, 0, 0, 1, 2, 127, 128, 255)
	}
	for i := 4; i < n; i += 8 {
		to := ramStart + 8*r.Intn(n/8)
		switch r.Intn(20) {
		case 0:
			to = 0
		case 1:
			continue
		}
		copy(b[i:], []byte{0, 0, byte(to >> 8), byte(to)})
	}
	return b
}

// someSearch: a search by chance in a memory of so many bytes.
func someSearch(r *rand.Rand, size int) api.Search {
	inside := func() uint32 { return uint32(r.Intn(size)) }
	near := func() uint32 { return uint32(size - r.Intn(6)) }
	little := func() uint32 { return uint32(r.Intn(6)) }
	s := api.Search{
		Key:     someOf(r, inside(), inside(), little(), near(), r.Uint32(), 0x8000, 0x80, 0x0102, 0x7fff, 0xff, 1),
		KeySize: someOf[uint32](r, 1, 1, 1, 2, 2, 2, 4, 4, 0, 3, 5, 6, 255, 256, 257, top32),
		Start:   someOf(r, inside(), inside(), inside(), 0, near(), r.Uint32(), -little()),
		Size:    someOf(r, little(), little(), little(), -little(), 1<<31, r.Uint32()),
		Count:   someOf(r, little(), uint32(r.Intn(40)), uint32(r.Intn(40)), top32, top32-1, r.Uint32()),
		Offset:  someOf(r, 0, 0, little(), -little(), inside(), r.Uint32()),
		Next:    someOf(r, 0, little(), little(), -little(), inside(), r.Uint32()),
		Options: uint32(r.Intn(8)),
	}
	if r.Intn(2) == 0 {
		// Most of what is looked at is there.
		s.Start, s.Offset, s.Next, s.KeySize = inside(), little(), little(), someOf[uint32](r, 1, 2)
	}
	if r.Intn(30) == 0 {
		s.Start, s.Offset, s.Next = s.Start&^7, uint32(r.Intn(3)), 4
		s.KeySize = someOf(r, s.KeySize, 1, 2)
	}
	if r.Intn(4) == 0 {
		s.Start, s.Offset, s.Next = s.Start+100, s.Offset-100, s.Next-100
	}
	if r.Intn(8) == 0 {
		s.Options |= r.Uint32() &^ 7
	}
	return s
}
