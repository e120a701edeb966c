package header

import (
	"bytes"
	"encoding/binary"
	"math/big"
	"math/rand"
	"strings"
	"testing"

	"grotto/api"
)

// fieldsOf: the eight numbers of a header, in its order.
func fieldsOf(h api.Header) []uint32 {
	return []uint32{h.Version, h.RamStart, h.ExtStart, h.EndMem, h.StackSize, h.Start, h.Table, h.Sum}
}

// laid: the bytes of a game with just these numbers, its Sum too, by the words of P7.1 alone.
func laid(h api.Header, rest []byte) []byte {
	b := []byte("Glul")
	for _, x := range fieldsOf(h) {
		b = binary.BigEndian.AppendUint32(b, x)
	}
	return append(b, rest...)
}

// summed: b with the right Sum at 32, if that place is there.
func summed(b []byte) []byte {
	b = bytes.Clone(b)
	if len(b) >= 36 {
		binary.BigEndian.PutUint32(b[32:], sumOf(b))
	}
	return b
}

// sumOf: what the words of P7.3 say of b, as a whole number of any size that is cut at the end.
func sumOf(b []byte) uint32 {
	total := new(big.Int)
	for i := 0; i < len(b)/4; i++ {
		if i == 8 {
			continue
		}
		total.Add(total, new(big.Int).SetBytes(b[4*i:4*i+4]))
	}
	return uint32(total.Mod(total, big.NewInt(1<<32)).Uint64())
}

// parseOf: what the words of P7.2 say of b.
func parseOf(b []byte) (api.Header, api.Errno, int) {
	none := api.Header{}
	if len(b) > 1048576 {
		return none, api.ErrLong, 0
	}
	for i, c := range []byte("Glul") {
		if i < len(b) && b[i] != c {
			return none, api.ErrMagic, 0
		}
	}
	if len(b) < 36 {
		return none, api.ErrShort, len(b)
	}
	var x [8]int64
	for i := range x {
		x[i] = new(big.Int).SetBytes(b[4+4*i : 8+4*i]).Int64()
	}
	version, ram, ext, end, stack, start, table := x[0], x[1], x[2], x[3], x[4], x[5], x[6]
	for _, c := range []struct {
		wrong bool
		e     api.Errno
		at    int
	}{
		{version < 0x00020000 || 0x000301ff < version, api.ErrVersion, 4},
		{ram < 256 || ram&255 != 0, api.ErrMap, 8},
		{ext < ram || ext != int64(len(b)) || ext&255 != 0, api.ErrMap, 12},
		{end < ext || 1048576 < end || end&255 != 0, api.ErrMap, 16},
		{stack < 1 || 65536 < stack || stack&255 != 0, api.ErrStack, 20},
		{start < 36 || end <= start, api.ErrMap, 24},
		{end <= table, api.ErrMap, 28},
		{uint32(x[7]) != sumOf(b), api.ErrSum, 32},
	} {
		if c.wrong {
			return none, c.e, c.at
		}
	}
	n := func(i int) uint32 { return uint32(x[i]) }
	return api.Header{Version: n(0), RamStart: n(1), ExtStart: n(2), EndMem: n(3), StackSize: n(4), Start: n(5), Table: n(6), Sum: n(7)}, api.OK, 36
}

// expectHeader: Parse tells this header of b.
func expectHeader(t *testing.T, what string, b []byte, want api.Header) {
	t.Helper()
	if h, e, at := Parse(b); h != want || e != api.OK || at != 36 {
		t.Errorf("%s: Parse of %d bytes = %v, %d at %d; not %v, OK at 36", what, len(b), h, e, at, want)
	}
}

// expectFault: Parse tells this fault of b, and no header.
func expectFault(t *testing.T, what string, b []byte, e api.Errno, at int) {
	t.Helper()
	if h, f, place := Parse(b); h != (api.Header{}) || f != e || place != at {
		t.Errorf("%s: Parse of %d bytes = %v, %d at %d; not %d at %d", what, len(b), h, f, place, e, at)
	}
}

// expectMade: Make lays the game of h and rest, and Parse tells h of it, with its Sum; answers the game.
func expectMade(t *testing.T, what string, h api.Header, rest []byte) []byte {
	t.Helper()
	b, e := Make(h, rest)
	if want := summed(laid(h, rest)); e != api.OK || !bytes.Equal(b, want) {
		t.Fatalf("%s: Make of %v and %d bytes = %d bytes, %d; not the %d bytes that are right", what, h, len(rest), len(b), e, len(want))
	}
	h.Sum = sumOf(b)
	expectHeader(t, what, b, h)
	return b
}

// expectError: Make tells this error, and no bytes.
func expectError(t *testing.T, what string, h api.Header, rest []byte, e api.Errno) {
	t.Helper()
	if b, f := Make(h, rest); len(b) != 0 || f != e {
		t.Errorf("%s: Make of %v and %d bytes = %d bytes, %d; not %d", what, h, len(rest), len(b), f, e)
	}
}

// small: a header of a game of 768 bytes, with a page of room below and above each bound of its memory.
func small() (h api.Header, rest []byte) {
	h = api.Header{Version: 0x00030103, RamStart: 512, ExtStart: 768, EndMem: 1024, StackSize: 512, Start: 100, Table: 200}
	return h, bytes.Repeat([]byte{1, 0x80, 0xff}, (768-36)/3)
}

// with: h with another number at this place of a game.
func with(h api.Header, place int, x uint32) api.Header {
	switch place {
	case 4:
		h.Version = x
	case 8:
		h.RamStart = x
	case 12:
		h.ExtStart = x
	case 16:
		h.EndMem = x
	case 20:
		h.StackSize = x
	case 24:
		h.Start = x
	case 28:
		h.Table = x
	case 32:
		h.Sum = x
	}
	return h
}

// someOf: one of these by chance.
func someOf[T any](r *rand.Rand, l ...T) T {
	return l[r.Intn(len(l))]
}

// someGame: the header and the rest of a game by chance, up to this many pages, and right.
func someGame(r *rand.Rand, pages int) (h api.Header, rest []byte) {
	n := 1 + r.Intn(pages)
	ext := uint32(256 * n)
	end := someOf(r, ext, ext+256, ext+256*uint32(r.Intn(1+(api.MaxMem-int(ext))/256)), api.MaxMem)
	h = api.Header{
		Version:   someOf(r, 0x00020000, 0x00020001, 0x00030103, 0x000301fe, 0x000301ff, 0x00020000+uint32(r.Intn(0x10200))),
		RamStart:  someOf(r, 256, ext, 256*uint32(1+r.Intn(n))),
		ExtStart:  ext,
		EndMem:    end,
		StackSize: someOf(r, 256, 65536, 256*uint32(1+r.Intn(256))),
		Start:     someOf(r, 36, end-1, 36+uint32(r.Intn(int(end)-36))),
		Table:     someOf(r, 0, end-1, uint32(r.Intn(int(end)))),
		Sum:       r.Uint32(),
	}
	rest = make([]byte, int(ext)-36)
	r.Read(rest)
	return h, rest
}

// near: a number by chance that is just below, at or above one that is a bound.
func near(r *rand.Rand, h api.Header) uint32 {
	bound := someOf(r, 0, 36, 256, h.RamStart, h.ExtStart, h.EndMem, h.StackSize, 65536, 0x20000, 0x301ff, 1048576, 1<<31)
	return bound + someOf[uint32](r, 0, 0, 1, 1<<32-1, 256, 1<<32-256, 128)
}

// zeros: n bytes 0, for games that are written out.
func zeros(n int) string {
	return strings.Repeat("\x00", n)
}
