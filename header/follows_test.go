package header

import (
	"bytes"
	"encoding/binary"
	"math/rand"
	"testing"

	"grotto/api"
)

// P7.5

func TestParseOfMake(t *testing.T) {
	r := rand.New(rand.NewSource(75))
	for i := range 3000 {
		pages := 4
		if i%100 == 0 {
			pages = api.MaxMem / api.Page
		}
		h, rest := someGame(r, pages)
		b, e := Make(h, rest)
		if e != api.OK {
			t.Fatalf("Make(%v, %d bytes): error %d", h, len(rest), e)
		}
		h.Sum = Sum(b)
		expectHeader(t, "a game that was made", b, h)
		if !bytes.Equal(b[36:], rest) {
			t.Errorf("behind the header of %v other bytes stand", h)
		}
		// And Make of what Parse tells is the same game.
		told, _, _ := Parse(b)
		if c, e := Make(told, b[36:]); e != api.OK || !bytes.Equal(c, b) {
			t.Errorf("Make of what Parse tells of %v is another game", h)
		}
	}
}

// P7.6

func TestOneBitTurned(t *testing.T) {
	r := rand.New(rand.NewSource(76))
	for range 40 {
		h, rest := someGame(r, 2)
		b, _ := Make(h, rest)
		for bit := range 8 * len(b) {
			refused(t, b, bit)
		}
	}
	// Bytes that are all 0 or all 1: no bit's place is told by others.
	for _, c := range []byte{0, 0xff} {
		h := api.Header{Version: api.MinVersion, RamStart: 256, ExtStart: 512, EndMem: 512, StackSize: 256, Start: 36}
		b, _ := Make(h, bytes.Repeat([]byte{c}, 512-36))
		for bit := range 8 * len(b) {
			refused(t, b, bit)
		}
	}
	h := api.Header{Version: api.MaxVersion, RamStart: 256, ExtStart: api.MaxMem, EndMem: api.MaxMem, StackSize: 256, Start: 36}
	rest := make([]byte, api.MaxMem-36)
	r.Read(rest)
	b, _ := Make(h, rest)
	for bit := range 8 * 36 {
		refused(t, b, bit)
		refused(t, b, 8*len(b)-1-bit)
		refused(t, b, r.Intn(8*len(b)))
	}
}

// refused: b is a game, and none with this bit turned.
func refused(t *testing.T, b []byte, bit int) {
	t.Helper()
	if _, e, _ := Parse(b); e != api.OK {
		t.Fatalf("a game of %d bytes is refused: %d", len(b), e)
	}
	b[bit/8] ^= 1 << (bit % 8)
	if h, e, _ := Parse(b); e == api.OK || h != (api.Header{}) {
		t.Errorf("with the bit %d turned a game of %d bytes is taken", bit, len(b))
	}
	b[bit/8] ^= 1 << (bit % 8)
}

// P7.7

func TestSumOfTwoPieces(t *testing.T) {
	r := rand.New(rand.NewSource(77))
	for range 20000 {
		first := make([]byte, 4*someOf(r, 9, 10, 64, 9+r.Intn(100)))
		second := make([]byte, someOf(r, 0, 3, 4, 31, 32, 33, 35, 36, 37, 40, 256, r.Intn(400)))
		r.Read(first)
		r.Read(second)
		want := Sum(first) + Sum(second)
		if len(second) >= 36 {
			want += binary.BigEndian.Uint32(second[32:])
		}
		if s := Sum(append(bytes.Clone(first), second...)); s != want {
			t.Fatalf("Sum of %x and %x = %#x, not %#x", first, second, s, want)
		}
	}
}

func TestSumOfAGameAndMore(t *testing.T) {
	r := rand.New(rand.NewSource(777))
	for range 300 {
		h, rest := someGame(r, 3)
		game, _ := Make(h, rest)
		again, _ := Make(h, rest)
		sum := binary.BigEndian.Uint32(game[32:])
		// The second's own Sum is a word like others there.
		if s := Sum(append(game, again...)); s != 3*sum {
			t.Fatalf("Sum of a game laid twice = %#x, not three times %#x", s, sum)
		}
	}
}
