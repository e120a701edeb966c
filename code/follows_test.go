package code

import (
	"math/rand"
	"testing"

	"grotto/api"
)

// P11.7

func TestDecodeOfEncode(t *testing.T) {
	r := rand.New(rand.NewSource(1107))
	l := list()
	for range 20000 {
		x, modes, values := someInstr(r, l)
		in := instrOf(x.op, modes, values)
		b, e := Encode(in)
		if e != api.OK {
			t.Fatalf("Encode(%x): %d", in, e)
		}
		expectDecode(t, b, 0, in, len(b), api.OK)
		// Whatever lies ahead of it and behind it.
		ahead, behind := make([]byte, r.Intn(5)), make([]byte, r.Intn(5))
		r.Read(ahead)
		r.Read(behind)
		n := len(b)
		b = append(append(ahead, b...), behind...)
		expectDecode(t, b, len(ahead), in, n, api.OK)
	}
}

// P11.8

func TestNumberInMoreBytes(t *testing.T) {
	r := rand.New(rand.NewSource(1108))
	l := list()
	for range 10000 {
		x, modes, values := someInstr(r, l)
		in := instrOf(x.op, modes, values)
		b, e := Encode(in)
		if e != api.OK {
			t.Fatalf("Encode(%x): %d", in, e)
		}
		short := sizes(x.op)[0]
		for _, size := range sizes(x.op)[1:] {
			more := append(laid(x.op, size, 0, nil, nil), b[short:]...)
			expectDecode(t, more, 0, in, len(b)-short+size, api.OK)
		}
	}
}

// P11.9

func TestNoShorterBeginning(t *testing.T) {
	r := rand.New(rand.NewSource(1109))
	l := list()
	for range 3000 {
		x, modes, values := someInstr(r, l)
		b := laid(x.op, someOf(r, sizes(x.op)...), byte(r.Intn(16)), modes, values)
		if _, n, e := Decode(b, 0); n != len(b) || e != api.OK {
			t.Fatalf("Decode(%x): %d, %d", b, n, e)
		}
		for n := range b {
			expectRefused(t, b[:n], 0, api.FatalRead)
		}
	}
}

// Whatever is read as an instruction is laid so that it is read again, in no more bytes.
func TestEncodeOfDecode(t *testing.T) {
	r := rand.New(rand.NewSource(1110))
	read := 0
	for range 200000 {
		b := make([]byte, 24)
		r.Read(b)
		b[0] = someOf(r, b[0], 0x80|b[0]&3, 0x10|b[0]&15)
		in, n, e := Decode(b, 0)
		if e != api.OK {
			continue
		}
		read++
		again, e := Encode(in)
		if e != api.OK || len(again) > n {
			t.Fatalf("Encode(%x): %x, %d", in, again, e)
		}
		expectDecode(t, again, 0, in, len(again), api.OK)
	}
	if read < 1000 {
		t.Error(read)
	}
}
