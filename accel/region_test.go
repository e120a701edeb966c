package accel

import (
	"testing"

	"grotto/api"
)

// P18.1

// kindsOfBytes: the bytes at which what lies there changes, and what lies in RAM there.
var kindsOfBytes = []struct {
	c, inRAM, ahead uint32
}{
	{0x00, 0, 0}, {0x01, 0, 0}, {0x6f, 0, 0},
	{0x70, 1, 0}, {0x71, 1, 0}, {0x7e, 1, 0}, {0x7f, 1, 0},
	{0x80, 0, 0}, {0x81, 0, 0}, {0xbf, 0, 0},
	{0xc0, 2, 2}, {0xc1, 2, 2}, {0xdf, 2, 2},
	{0xe0, 3, 3}, {0xe1, 3, 3}, {0xff, 3, 3},
}

func TestRegionBytes(t *testing.T) {
	for _, k := range kindsOfBytes {
		g := newGround()
		ahead, inRAM := []uint32{36, 37, 100, 254, 255}, []uint32{256, 257, 600, groundSize - 2, groundSize - 1}
		for _, a := range append(ahead, inRAM...) {
			g.put(a, 1, k.c)
		}
		m := g.memory(t)
		for _, a := range ahead {
			expectDo(t, m, usual(), 1, args(a), k.ahead)
		}
		for _, a := range inRAM {
			expectDo(t, m, usual(), 1, args(a), k.inRAM)
		}
		for _, a := range []uint32{0, 34, 38, 253, 258, groundSize - 3, groundSize, groundSize + 1, 1 << 31, top} {
			expectDo(t, m, usual(), 1, args(a), 0)
		}
	}
}

func TestRegionOfTheHeader(t *testing.T) {
	// The header's sum ends at 35: it can be each of these bytes.
	seen := map[byte]bool{}
	for i := range uint32(256) {
		g := newGround()
		g.put(1000, 4, i)
		m := g.memory(t)
		c := m.Bytes()[35]
		seen[c] = true
		for a := range uint32(36) {
			expectDo(t, m, usual(), 1, args(a), 0)
		}
	}
	for _, c := range []byte{0x70, 0xc0, 0xe0, 0xff} {
		if !seen[c] {
			t.Errorf("no header ends with %x", c)
		}
	}
}

func TestRegionWhereRAMBegins(t *testing.T) {
	for _, ram := range []uint32{256, 512, 1024} {
		g := newGround()
		g.ram = ram
		g.put(ram-2, 1, 0x70, 0x70, 0x70, 0x70)
		m := g.memory(t)
		for i, want := range []uint32{0, 0, 1, 1} {
			expectDo(t, m, usual(), 1, args(ram-2+uint32(i)), want)
		}
	}
}

func TestRegionHangsOnSize(t *testing.T) {
	g := newGround()
	g.put(groundSize-1, 1, 0x70)
	m := g.memory(t)
	const last = groundSize + api.Page - 1
	expectDo(t, m, usual(), 1, args(last), 0)
	if !m.Resize(groundSize + api.Page) {
		t.Fatal("no more memory")
	}
	for _, k := range kindsOfBytes {
		m.Write(groundSize, 1, k.c)
		m.Write(last, 1, k.c)
		expectDo(t, m, usual(), 1, args(groundSize), k.inRAM)
		expectDo(t, m, usual(), 1, args(last), k.inRAM)
		expectDo(t, m, usual(), 1, args(last+1), 0)
	}
	m.Resize(groundSize)
	expectDo(t, m, usual(), 1, args(groundSize), 0)
	expectDo(t, m, usual(), 1, args(groundSize-1), 1)
}

func TestRegionLooksAtNothingElse(t *testing.T) {
	g := newGround()
	g.put(300, 1, 0x70, 0xc0, 0xe0)
	m := g.memory(t)
	for _, b := range []uint32{0, 1, 300, top} {
		for _, p := range [][]uint32{usual(), make([]uint32, 9), {top, top, top, top, top, top, top, top, top}} {
			for i := range uint32(3) {
				expectDo(t, m, p, 1, args(300+i, b), 1+i)
				expectDo(t, m, p, 1, args(300+i, b, 7), 1+i)
			}
		}
	}
}

func TestRegionOfAll(t *testing.T) {
	g := newGround()
	for i := range uint32(groundSize) {
		g.put(i, 1, i*7)
	}
	m := g.memory(t)
	for a := range uint32(groundSize + 300) {
		expectLikeModel(t, m, usual(), 1, args(a))
	}
}
